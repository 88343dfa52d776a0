package walk_test

import (
	"fmt"
	"math"
	"strings"
	"testing"

	"tinsel/api"
	"tinsel/desc"
	"tinsel/fault"
	"tinsel/walk"
)

// blocksOf: the Blocks of these paths together, links not followed.
func blocksOf(t *testing.T, p *desc.Proc, paths ...string) int {
	t.Helper()
	n := 0
	for _, s := range paths {
		st, e := p.Lstat(s)
		good(t, "Lstat", e)
		n += st.Blocks
	}
	return n
}

// sums: Sum counts just these paths' inodes, and tells that error; bits of
// flags that a sum does not hang on change nothing.
func sums(t *testing.T, what string, p *desc.Proc, flags int, root string, e api.Errno, paths ...string) {
	t.Helper()
	for _, more := range []int{0, post, sorted, post | sorted, 16, ^15} {
		n, blocks, got := walk.Sum(fault.New(p), flags|more, root)
		same(t, fmt.Sprintf("%s, flags %d", what, flags|more), []any{n, blocks, got}, []any{len(paths), blocksOf(t, p, paths...), e})
	}
	same(t, what+": Fds", p.Fds(), []int{})
}

// P14.4: inodes and blocks, each inode once.
func TestSum(t *testing.T) {
	p := grown(t, "d /t", "f /t/none 0", "f /t/one 1", "f /t/two 65", "f /t/much 17792", "d /t/d", "f /t/d/x 64", "d /t/e")
	if n := blocksOf(t, p, "/t/none", "/t/one", "/t/two", "/t/d/x"); n != 4 {
		t.Fatal("blocks: ", n)
	}
	sums(t, "a tree", p, 0, "/t", 0, "/t", "/t/none", "/t/one", "/t/two", "/t/much", "/t/d", "/t/d/x", "/t/e")
	sums(t, "a directory", p, 0, "/t/d/", 0, "/t/d", "/t/d/x")
	sums(t, "an empty directory", p, 0, "/t/e", 0, "/t/e")
	sums(t, "a file", p, 0, "/t/much", 0, "/t/much")
	sums(t, "an empty file", p, 0, "/t/none", 0, "/t/none")
	sums(t, "all", p, 0, "/", 0, "/", "/t", "/t/none", "/t/one", "/t/two", "/t/much", "/t/d", "/t/d/x", "/t/e")
	all, free, inodes, spare := p.Statfs()
	n, blocks, e := walk.Sum(fault.New(p), 0, "/")
	same(t, "all that is in use", []any{n, blocks, e}, []any{inodes - spare, all - free, api.OK})
	sums(t, "not there", p, 0, "/x", api.ENOENT)
	sums(t, "no path", p, logical, "", api.ENOENT)
	sums(t, "a file as a directory", p, 0, "/t/one/", api.ENOTDIR)
}

// P14.4: as deep as a tree is.
func TestSumOfDeepTree(t *testing.T) {
	p := grown(t)
	paths := list()
	for i := range 50 {
		paths = append(paths, strings.Repeat("/d", i+1))
		grow(t, p, "d "+paths[i])
	}
	grow(t, p, fmt.Sprintf("f %s/f 1000", paths[49]))
	sums(t, "deep", p, 0, "/d", 0, append(paths, paths[49]+"/f")...)
	sums(t, "deep", p, logical, "/d", 0, append(paths, paths[49]+"/f")...)
}

// P14.4: files with several names, and links.
func TestSumOfLinks(t *testing.T) {
	p := grown(t, "d /t", "f /t/f 200", "h /t/g /t/f", "d /t/d", "h /t/d/h /t/f", "d /o", "f /o/x 300", "h /t/d/x /o/x", "l /t/l f", "l /t/o ../o", "l /t/up .", "l /t/no x", "l /t/me me", "l /r t", "l /rl t/l")
	links := list("/t/l", "/t/o", "/t/up", "/t/no", "/t/me")
	sums(t, "not followed", p, 0, "/t", 0, append(links, "/t", "/t/f", "/t/d", "/o/x")...)
	sums(t, "followed at roots", p, roots, "/t", 0, append(links, "/t", "/t/f", "/t/d", "/o/x")...)
	sums(t, "a link, not followed", p, 0, "/r", 0, "/r")
	sums(t, "a link, followed", p, roots, "/r", 0, append(links, "/t", "/t/f", "/t/d", "/o/x")...)
	sums(t, "followed", p, logical, "/t", 0, "/t", "/t/f", "/t/d", "/o", "/o/x", "/t/no", "/t/me")
	sums(t, "followed", p, logical, "/", 0, "/", "/t", "/t/f", "/t/d", "/o", "/o/x", "/t/no", "/t/me")
	sums(t, "a link to a link", p, logical, "/rl", 0, "/t/f")
	sums(t, "a link to a link", p, roots, "/rl", 0, "/t/f")
	sums(t, "nowhere", p, logical, "/t/no", 0, "/t/no")
	sums(t, "a loop", p, logical, "/t/me", 0, "/t/me")
	sums(t, "a cycle counts once", p, logical, "/t/up", 0, "/t", "/t/f", "/t/d", "/o", "/o/x", "/t/no", "/t/me")
}

// P14.4: a directory that several links lead to counts once, and so does what
// lies in it.
func TestSumOfManyWays(t *testing.T) {
	p := grown(t, "d /t", "d /t/a", "f /t/a/x 500", "l /t/b a", "l /t/c b", "d /t/d", "l /t/d/a ../a", "l /t/d/d .")
	sums(t, "many ways", p, logical, "/t", 0, "/t", "/t/a", "/t/a/x", "/t/d")
}

// P14.4: trees with errors in them: what was come to counts, the first error is told.
func TestSumWithErrors(t *testing.T) {
	lines := list("d /t", "d /t/a", "f /t/a/x 100", "f /t/a/y 200", "f /t/f 300", "d /t/b", "f /t/b/z 400")
	for _, v := range []struct {
		plan  []api.Choice
		e     api.Errno
		paths []string
	}{
		{nil, 0, list("/t", "/t/a", "/t/a/x", "/t/a/y", "/t/f", "/t/b", "/t/b/z")},
		{[]api.Choice{fails("lstat", 1, api.EACCES)}, api.EACCES, nil},
		{[]api.Choice{fails("lstat", 2, api.EACCES)}, api.EACCES, list("/t", "/t/f", "/t/b", "/t/b/z")},
		{[]api.Choice{fails("lstat", 3, api.EIO)}, api.EIO, list("/t", "/t/a", "/t/a/y", "/t/f", "/t/b", "/t/b/z")},
		{[]api.Choice{fails("open", 1, api.EINTR)}, api.EINTR, list("/t")},
		{[]api.Choice{fails("open", 2, api.EMFILE)}, api.EMFILE, list("/t", "/t/a", "/t/f", "/t/b", "/t/b/z")},
		{[]api.Choice{fails("open", 3, api.EROFS)}, api.EROFS, list("/t", "/t/a", "/t/a/x", "/t/a/y", "/t/f", "/t/b")},
		{[]api.Choice{fails("readdir", 4, api.EIO)}, api.EIO, list("/t", "/t/a", "/t/a/x", "/t/a/y")},
		{[]api.Choice{fails("close", 1, api.EIO)}, api.EIO, list("/t", "/t/a", "/t/a/x", "/t/a/y", "/t/f", "/t/b", "/t/b/z")},
		{[]api.Choice{fails("open", 2, api.EACCES), fails("lstat", 5, api.EIO)}, api.EACCES, list("/t", "/t/a", "/t/f", "/t/b")},
		{[]api.Choice{fails("open", 3, api.EACCES), fails("lstat", 5, api.EIO)}, api.EIO, list("/t", "/t/a", "/t/a/x", "/t/a/y", "/t/b")},
	} {
		p := grown(t, lines...)
		n, blocks, e := walk.Sum(fault.New(p, v.plan...), 0, "/t")
		same(t, fmt.Sprintf("%+v", v.plan), []any{n, blocks, e}, []any{len(v.paths), blocksOf(t, p, v.paths...), v.e})
	}
}

// P14.4: with links followed an error of Stat counts, one that Lstat mends does not.
func TestSumFollowedWithErrors(t *testing.T) {
	p := grown(t, "d /t", "f /t/f 100", "l /t/under f/x", "l /t/no x")
	sums(t, "followed", p, logical, "/t", api.ENOTDIR, "/t", "/t/f", "/t/no")
	n, blocks, e := walk.Sum(fault.New(p, fails("lstat", 1, api.EIO)), logical, "/t")
	same(t, "Lstat fails, too", []any{n, blocks, e}, []any{2, blocksOf(t, p, "/t", "/t/f"), api.ENOTDIR})
	n, blocks, e = walk.Sum(fault.New(p, fails("lstat", 1, api.EIO)), logical, "/t/no")
	same(t, "Lstat fails", []any{n, blocks, e}, []any{0, 0, api.EIO})
}

// P14.4, R5: of a gate that no call made.
func TestSumOfNoGate(t *testing.T) {
	for _, g := range noGates() {
		for _, flags := range []int{0, 15, -1, math.MinInt, math.MaxInt} {
			n, blocks, e := walk.Sum(g, flags, "/")
			same(t, "Sum", []any{n, blocks, e}, []any{0, 0, api.EFAULT})
		}
		same(t, "calls", g.Calls(), 0)
	}
}

// Sum goes over the tree just as a walk does.
func TestSumAsks(t *testing.T) {
	for flags := range 16 {
		a, b := gate(t, small()...), gate(t, small()...)
		walk.Sum(a, flags, "/a")
		asked(t, walk.New(b, flags, -1, "/a"))
		same(t, fmt.Sprint("flags ", flags), counts(t, "Sum", a), counts(t, "walk", b))
	}
}
