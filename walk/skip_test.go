package walk_test

import (
	"fmt"
	"slices"
	"strings"
	"testing"

	"tinsel/api"
	"tinsel/desc"
	"tinsel/fault"
	"tinsel/walk"
)

// skipping: what a walk tells, if it is skipped so often behind each step of
// which skip says so.
func skipping(t *testing.T, w *walk.Walker, times int, skip func(v api.Visit) bool) []api.Visit {
	t.Helper()
	var l []api.Visit
	for v, ok := w.Next(); ok; v, ok = w.Next() {
		l = append(l, v)
		if skip(v) {
			for range times {
				w.Skip()
			}
		}
	}
	return l
}

// P14.1: what was told just now is not gone into.
func TestSkip(t *testing.T) {
	g := gate(t, small()...)
	whole := "pre /a 0\npre /a/z 1\nfile /a/z/2 2\nfile /a/z/1 2\npost /a/z 1\nfile /a/f 1\npre /a/e 1\npost /a/e 1\npre /a/B 1\npre /a/B/B 2\nfile /a/B/B/x 3\npost /a/B/B 2\npost /a/B 1\npost /a 0\n"
	for _, v := range []struct{ path, gone string }{
		{"/a", "pre /a/z 1\nfile /a/z/2 2\nfile /a/z/1 2\npost /a/z 1\nfile /a/f 1\npre /a/e 1\npost /a/e 1\npre /a/B 1\npre /a/B/B 2\nfile /a/B/B/x 3\npost /a/B/B 2\npost /a/B 1\n"},
		{"/a/z", "file /a/z/2 2\nfile /a/z/1 2\n"},
		{"/a/z/2", ""},
		{"/a/z/1", ""},
		{"/a/f", ""},
		{"/a/e", ""},
		{"/a/B", "pre /a/B/B 2\nfile /a/B/B/x 3\npost /a/B/B 2\n"},
		{"/a/B/B", "file /a/B/B/x 3\n"},
		{"/a/B/B/x", ""},
	} {
		for times := 1; times <= 3; times++ {
			l := skipping(t, walk.New(g, post, -1, "/a"), times, func(x api.Visit) bool { return x.Path == v.path })
			same(t, "Skip of "+v.path, text(l), strings.Replace(whole, v.gone, "", 1))
		}
	}
	l := skipping(t, walk.New(g, 0, -1, "/a", "/g", "/a/z"), 1, func(v api.Visit) bool { return v.Depth == 0 })
	same(t, "Skip of all roots", text(l), "pre /a 0\nfile /g 0\npre /a/z 0\n")
	l = skipping(t, walk.New(g, sorted, -1, "/a"), 1, func(v api.Visit) bool { return v.Depth == 1 })
	same(t, "Skip of all in it", text(l), "pre /a 0\npre /a/B 1\npre /a/e 1\nfile /a/f 1\npre /a/z 1\n")
}

// Of what is no VisitPre Skip says nothing: not of what comes next, nor of the
// directory that it lies in.
func TestSkipOfOthers(t *testing.T) {
	lines := list("d /a", "f /a/f 1", "d /a/d", "f /a/d/x 1", "l /a/d/up ..", "l /a/no x", "d /a/e", "f /a/z 1")
	for flags := range 16 {
		for depth := -1; depth < 4; depth++ {
			from := list("/x", "/a", "/a/f", "/a/e")
			plan := []api.Choice{fails("readdir", 6, api.EIO), fails("lstat", 5, api.EIO), fails("stat", 7, api.EACCES), fails("close", 2, api.EIO)}
			want := asked(t, walk.New(fault.New(grown(t, lines...), plan...), flags, depth, from...))
			l := skipping(t, walk.New(fault.New(grown(t, lines...), plan...), flags, depth, from...), 2, func(v api.Visit) bool { return v.Kind != api.VisitPre })
			same(t, fmt.Sprint("flags ", flags, ", depth ", depth), text(l), text(want))
		}
	}
}

// Skip behind an error of a directory's Names comes too late.
func TestSkipBehindError(t *testing.T) {
	g := fault.New(grown(t, "d /a", "f /a/f 1", "f /a/g 1"), fails("readdir", 4, api.EIO))
	l := skipping(t, walk.New(g, post, -1, "/a"), 1, func(v api.Visit) bool { return v.Kind == api.VisitErr })
	same(t, "steps", text(l), "pre /a 0\nerr /a 0 5\nfile /a/f 1\npost /a 0\n")
}

// Skip ahead of the first Next, behind the end, and long behind a VisitPre.
func TestSkipAtTheEnds(t *testing.T) {
	g := gate(t, "d /a", "f /a/f 1", "d /e")
	w := walk.New(g, post, -1, "/a", "/e")
	w.Skip()
	w.Skip()
	same(t, "ahead of the first Next", text(asked(t, w)), "pre /a 0\nfile /a/f 1\npost /a 0\npre /e 0\npost /e 0\n")
	w.Skip()
	same(t, "behind the end", asked(t, w), []api.Visit{})
	w = walk.New(g, 0, -1, "/e")
	v, _ := w.Next()
	same(t, "Next", line(v), "pre /e 0")
	w.Skip()
	same(t, "behind the last", asked(t, w), []api.Visit{})
	w.Skip()
	same(t, "behind the last", asked(t, w), []api.Visit{})
	walk.New(g, 0, -1).Skip()
	same(t, "no root", asked(t, walk.New(g, 0, -1)), []api.Visit{})
}

// What is skipped is not read.
func TestSkipReadsNothing(t *testing.T) {
	g := gate(t, small()...)
	l := skipping(t, walk.New(g, post|sorted, -1, "/a", "/g"), 1, func(v api.Visit) bool { return v.Path != "/a" })
	same(t, "steps", text(l), "pre /a 0\npre /a/B 1\npost /a/B 1\npre /a/e 1\npost /a/e 1\nfile /a/f 1\npre /a/z 1\npost /a/z 1\npost /a 0\nfile /g 0\n")
	counted(t, "calls", g, 1, 7, 1, 0, 6)
}

// Skip with links: what is skipped is left behind, and no cycle.
func TestSkipOfLinks(t *testing.T) {
	g := gate(t, "d /t", "d /t/a", "l /t/a/l ../b", "d /t/b", "l /t/b/l ../a")
	l := skipping(t, walk.New(g, logical, -1, "/t"), 1, func(v api.Visit) bool { return v.Path == "/t/a" })
	same(t, "steps", text(l), "pre /t 0\npre /t/a 1\npre /t/b 1\npre /t/b/l 2\ncycle /t/b/l/l 3\n")
}

// R5: a walker that no call made, and walks over gates that no call made.
func TestNoWalkers(t *testing.T) {
	ws := []*walk.Walker{nil, {}, new(walk.Walker)}
	for _, g := range noGates() {
		ws = append(ws, walk.New(g, 15, -1, "/", "/a", ""), walk.New(g, 0, 0))
	}
	for i, w := range ws {
		for range 3 {
			if v, ok := w.Next(); ok || v != (api.Visit{}) {
				t.Errorf("walker %d: %+v, %v", i, v, ok)
			}
			w.Skip()
		}
	}
}

// noGates: gates that no call made.
func noGates() []*fault.Gate {
	plan := []api.Choice{fails("open", 1, api.EIO), fails("lstat", 1, api.EIO), fails("stat", 1, api.EIO)}
	return []*fault.Gate{nil, {}, new(fault.Gate), fault.New(nil), fault.New(nil, plan...), fault.New(&desc.Proc{}, plan...)}
}

// P14.2: All tells what a walker tells, as often as it is gone over.
func TestAll(t *testing.T) {
	g := gate(t, small()...)
	for flags := range 16 {
		for depth := -1; depth < 5; depth++ {
			want := asked(t, walk.New(g, flags, depth, "/a", "/x", "/g", "/"))
			seq := walk.All(g, flags, depth, "/a", "/x", "/g", "/")
			for range 3 {
				same(t, fmt.Sprint("flags ", flags, ", depth ", depth), slices.Collect(seq), want)
			}
		}
	}
	for range walk.All(g, 15, -1) {
		t.Error("a step without a root")
	}
}

// P14.2: it walks as it is gone over: nothing is asked ahead of that, nor
// behind the step where it is left.
func TestAllIsLazy(t *testing.T) {
	g := gate(t, small()...)
	seq := walk.All(g, post, -1, "/a")
	counted(t, "All", g, 0, 0, 0, 0, 0)
	whole := asked(t, walk.New(gate(t, small()...), post, -1, "/a"))
	for n := range len(whole) {
		a, b := gate(t, small()...), gate(t, small()...)
		var l []api.Visit
		for v := range walk.All(a, post, -1, "/a") {
			l = append(l, v)
			if len(l) == n+1 {
				break
			}
		}
		same(t, fmt.Sprint("left at ", n), text(l), text(whole[:n+1]))
		w := walk.New(b, post, -1, "/a")
		for range n + 1 {
			w.Next()
		}
		same(t, fmt.Sprint("calls, left at ", n), counts(t, "All", a), counts(t, "Next", b))
		same(t, "Fds", a.Fds(), []int{})
	}
	for range seq {
		break
	}
	counted(t, "left at once", g, 0, 0, 0, 0, 1)
	same(t, "begun anew", text(slices.Collect(seq)), text(whole))
}

// P14.2: gone over again behind a change of the tree it tells the tree that is there.
func TestAllBehindAChange(t *testing.T) {
	g := gate(t, "d /a", "f /a/f 1")
	seq := walk.All(g, 0, -1, "/a", "/l")
	same(t, "once", text(slices.Collect(seq)), "pre /a 0\nfile /a/f 1\nerr /l 0 2\n")
	for _, l := range list("d /a/d", "l /l a", "f /a/d/x 1") {
		grow(t, g.Proc(), l)
	}
	good(t, "Unlink", g.Unlink("/a/f"))
	same(t, "again", text(slices.Collect(seq)), "pre /a 0\npre /a/d 1\nfile /a/d/x 2\nfile /l 0\n")
	good(t, "Rename", g.Rename("/a", "/b"))
	same(t, "and again", text(slices.Collect(seq)), "err /a 0 2\nfile /l 0\n")
}

// R3: iterators may be nested, in themselves too.
func TestAllNested(t *testing.T) {
	g := gate(t, "d /a", "d /a/b", "f /a/b/x 1", "f /a/f 1")
	seq := walk.All(g, post, -1, "/a")
	want := text(slices.Collect(seq))
	var outer []api.Visit
	for v := range seq {
		var inner []api.Visit
		for x := range seq {
			for range walk.All(g, 0, 0, v.Path, x.Path) {
				break
			}
			inner = append(inner, x)
		}
		same(t, "inner", text(inner), want)
		outer = append(outer, v)
	}
	same(t, "outer", text(outer), want)
}

// R5: over a gate that no call made All tells nothing.
func TestAllOfNoGate(t *testing.T) {
	for _, g := range noGates() {
		seq := walk.All(g, 15, -1, "/", "a")
		for range 2 {
			for v := range seq {
				t.Errorf("%+v", v)
			}
		}
		same(t, "calls", g.Calls(), 0)
	}
}

// A tree may be taken away on the walk: each directory behind what lies in it.
func TestTakenAwayOnTheWay(t *testing.T) {
	for _, flags := range []int{post, post | sorted} {
		g := gate(t, append(small(), "l /a/l z", "l /a/B/no x", "h /a/B/g /g")...)
		for v := range walk.All(g, flags, -1, "/a") {
			switch v.Kind {
			case api.VisitFile:
				good(t, line(v), g.Unlink(v.Path))
			case api.VisitPost:
				good(t, line(v), g.Rmdir(v.Path))
			case api.VisitErr, api.VisitCycle:
				t.Error(line(v))
			}
		}
		tells(t, "what is left", g, 0, -1, list("/"), "pre / 0", "file /g 1")
	}
}

// What goes away on the way is told where it is come to.
func TestChangedOnTheWay(t *testing.T) {
	g := gate(t, "d /a", "d /a/b", "f /a/b/x 1", "f /a/c 1", "f /a/d 1", "d /a/e")
	p := g.Proc()
	w := walk.New(g, post, -1, "/a", "/f")
	next := func(want string) api.Visit {
		t.Helper()
		v, ok := w.Next()
		same(t, "Next", []any{line(v), ok}, []any{want, true})
		return v
	}
	next("pre /a 0")
	good(t, "Unlink", p.Unlink("/a/d")) // not read yet: it is not told at all
	b := next("pre /a/b 1")
	good(t, "Unlink", p.Unlink("/a/b/x"))
	good(t, "Rmdir", p.Rmdir("/a/b"))
	same(t, "the Stat of what is gone", next("err /a/b 1 2").Stat, b.Stat)
	same(t, "the Stat of what is gone", next("post /a/b 1").Stat, b.Stat)
	good(t, "Unlink", p.Unlink("/a/c"))
	grow(t, p, "f /a/new 1") // in a free slot, but the directory was read by now
	same(t, "the Stat of what is gone", next("err /a/c 1 2").Stat, api.Stat{})
	good(t, "Rmdir", p.Rmdir("/a/e"))
	grow(t, p, "f /a/e 3") // another one by the same name
	same(t, "Size", next("file /a/e 1").Stat.Size, 3)
	next("post /a 0")
	grow(t, p, "d /f")
	next("pre /f 0")
	next("post /f 0")
	same(t, "the end", asked(t, w), []api.Visit{})
}
