package walk_test

import (
	"slices"
	"testing"

	"tinsel/api"
	"tinsel/fault"
	"tinsel/walk"
)

// Directories that somebody may not read, or not search.
func TestNoPermission(t *testing.T) {
	p := grown(t, "d /t", "d /t/x", "f /t/x/f 1", "d /t/x/d", "l /t/x/l f", "d /t/r", "f /t/r/f 1", "d /t/r/d", "l /t/r/l f", "l /t/r/no x",
		"d /t/n", "f /t/n/f 1", "d /t/o", "f /t/o/f 1", "l /t/l r", "f /t/z 1", "m /t/z 0", "m /t/x 711", "m /t/r 744", "m /t/n 700", "m /t/o 755")
	g := fault.New(as(t, p, 7))
	tells(t, "not followed", g, post, -1, list("/t"),
		"pre /t 0",
		"pre /t/x 1", "err /t/x 1 13", "post /t/x 1",
		"pre /t/r 1", "err /t/r/f 2 13", "err /t/r/d 2 13", "err /t/r/l 2 13", "err /t/r/no 2 13", "post /t/r 1",
		"pre /t/n 1", "err /t/n 1 13", "post /t/n 1",
		"pre /t/o 1", "file /t/o/f 2", "post /t/o 1",
		"file /t/l 1", "file /t/z 1", "post /t 0")
	tells(t, "followed", g, logical, -1, list("/t"),
		"pre /t 0",
		"pre /t/x 1", "err /t/x 1 13",
		"pre /t/r 1", "err /t/r/f 2 13", "err /t/r/d 2 13", "err /t/r/l 2 13", "err /t/r/no 2 13",
		"pre /t/n 1", "err /t/n 1 13",
		"pre /t/o 1", "file /t/o/f 2",
		"pre /t/l 1", "err /t/l/f 2 13", "err /t/l/d 2 13", "err /t/l/l 2 13", "err /t/l/no 2 13",
		"file /t/z 1")
	tells(t, "roots", g, 0, -1, list("/t/x/f", "/t/x/d", "/t/x/l", "/t/r/f", "/t/n/f", "/t/n/no", "/t/n/", "/t/r/."),
		"file /t/x/f 0", "pre /t/x/d 0", "file /t/x/l 0", "err /t/r/f 0 13", "err /t/n/f 0 13", "err /t/n/no 0 13", "pre /t/n/ 0", "err /t/n/ 0 13", "err /t/r/. 0 13")
	tells(t, "not gone into", g, post, 0, list("/t/n", "/t/x"), "pre /t/n 0", "post /t/n 0", "pre /t/x 0", "post /t/x 0")
	l := skipping(t, walk.New(g, 0, -1, "/t/n", "/t/x"), 1, func(v api.Visit) bool { return v.Kind == api.VisitPre })
	same(t, "skipped", text(l), "pre /t/n 0\npre /t/x 0\n")
	same(t, "root's", len(slices.Collect(walk.All(fault.New(p), 0, -1, "/t"))), 16)
}

// Of EACCES the link itself is not asked for.
func TestNoPermissionAsksOnce(t *testing.T) {
	p := grown(t, "d /t", "f /t/f 1", "l /l t/f", "m /t 700")
	g := fault.New(as(t, p, 7))
	asked(t, walk.New(g, logical, -1, "/t/f", "/l"))
	counted(t, "calls", g, 0, 0, 0, 2, 0)
	tells(t, "followed", g, roots, -1, list("/t/f", "/l"), "err /t/f 0 13", "err /l 0 13")
	tells(t, "not followed", g, 0, -1, list("/t/f", "/l"), "err /t/f 0 13", "file /l 0")
}

// Names and Sum where something may not be read.
func TestNamesWithoutPermission(t *testing.T) {
	p := grown(t, "d /t", "d /t/x", "f /t/x/f 1", "d /t/r", "f /t/r/f 1", "f /t/r/a 1", "m /t/x 711", "m /t/r 744")
	g := fault.New(as(t, p, 7))
	l, e := walk.Names(g, "/t/x", true)
	same(t, "not readable", []any{len(l), e}, []any{0, api.EACCES})
	counted(t, "not readable", g, 1, 0, 0, 0, 0)
	l, e = walk.Names(g, "/t/r", true)
	same(t, "not searchable", []any{names(l), e}, []any{"a f", api.OK})
	n, blocks, e := walk.Sum(g, sorted, "/t")
	same(t, "Sum", []any{n, blocks, e}, []any{3, blocksOf(t, p, "/t", "/t/x", "/t/r"), api.EACCES})
}
