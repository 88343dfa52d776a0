package walk_test

import (
	"fmt"
	"math"
	"slices"
	"strings"
	"testing"

	"tinsel/api"
	"tinsel/walk"
)

// small: the lines of a tree whose names do not stand in the order of bytes.
func small() []string {
	return list("d /a", "d /a/z", "f /a/z/2 70", "f /a/z/1 0", "f /a/f 5", "d /a/e", "d /a/B", "d /a/B/B", "f /a/B/B/x 1", "f /g 10")
}

// The chapter's examples.
func TestExamples(t *testing.T) {
	g := gate(t, "d /a", "f /a/b 3", "d /a/c")
	tells(t, "post", g, post, -1, list("/a"), "pre /a 0", "file /a/b 1", "pre /a/c 1", "post /a/c 1", "post /a 0")
	tells(t, "depth 0", g, post, 0, list("/a"), "pre /a 0", "post /a 0")
	tells(t, "not there", g, post, -1, list("/x"), "err /x 0 2")
	good(t, "Symlink", g.Symlink("/a", "/a/l"))
	tells(t, "a link", g, 0, -1, list("/a"), "pre /a 0", "file /a/b 1", "pre /a/c 1", "file /a/l 1")
	tells(t, "a cycle", g, logical, -1, list("/a"), "pre /a 0", "file /a/b 1", "pre /a/c 1", "cycle /a/l 1")
}

// P14.1: roots, one after the other.
func TestRoots(t *testing.T) {
	g := gate(t, small()...)
	e := list("pre /a/e 0", "post /a/e 0")
	z := list("pre /a/z 0", "file /a/z/2 1", "file /a/z/1 1", "post /a/z 0")
	tells(t, "no root", g, post, -1, nil)
	tells(t, "no root", g, 15, -1, list())
	tells(t, "one", g, post, -1, list("/a/e"), e...)
	tells(t, "two", g, post, -1, list("/a/e", "/a/z"), append(e, z...)...)
	tells(t, "two", g, post, -1, list("/a/z", "/a/e"), append(z, e...)...)
	tells(t, "the same twice", g, post, -1, list("/a/e", "/a/e"), append(e, e...)...)
	tells(t, "one in the other", g, 0, -1, list("/a/B", "/a/B/B", "/a/B"),
		"pre /a/B 0", "pre /a/B/B 1", "file /a/B/B/x 2", "pre /a/B/B 0", "file /a/B/B/x 1", "pre /a/B 0", "pre /a/B/B 1", "file /a/B/B/x 2")
	tells(t, "a file", g, 15, -1, list("/g"), "file /g 0")
	tells(t, "files and none", g, 15, -1, list("/g", "", "/x", "/g/", "/g/x", "/a/f", "/x/y", "/a/e"),
		"file /g 0", "err  0 2", "err /x 0 2", "err /g/ 0 20", "err /g/x 0 20", "file /a/f 0", "err /x/y 0 2", "pre /a/e 0", "post /a/e 0")
	g = gate(t, small()...)
	asked(t, walk.New(g, 15, -1))
	counted(t, "no root", g, 0, 0, 0, 0, 0)
}

// Path is as one would write it: the root's own text, then names.
func TestPaths(t *testing.T) {
	g := gate(t, "d /a", "d /a/b", "f /a/b/c 1", "d /e")
	for _, root := range list("/a", "a", "./a", "/./a", "//a", "e/../a", "/../a", "a/.", "a/b/..", "./././a") {
		tells(t, root, g, post, -1, list(root), "pre "+root+" 0", "pre "+root+"/b 1", "file "+root+"/b/c 2", "post "+root+"/b 1", "post "+root+" 0")
	}
	for _, root := range list("/a/", "a/", "a//", "a////", "./a/./") {
		tells(t, root, g, post, -1, list(root), "pre "+root+" 0", "pre "+root+"b 1", "file "+root+"b/c 2", "post "+root+"b 1", "post "+root+" 0")
	}
	tells(t, "the whole", g, 0, -1, list("/"), "pre / 0", "pre /a 1", "pre /a/b 2", "file /a/b/c 3", "pre /e 1")
	tells(t, "the whole", g, 0, 1, list("//"), "pre // 0", "pre //a 1", "pre //e 1")
	tells(t, "the whole", g, 0, 1, list("."), "pre . 0", "pre ./a 1", "pre ./e 1")
	good(t, "Chdir", g.Chdir("/a/b"))
	tells(t, "here", g, 0, -1, list("."), "pre . 0", "file ./c 1")
	tells(t, "above", g, 0, -1, list("..", "c"), "pre .. 0", "pre ../b 1", "file ../b/c 2", "file c 0")
}

// A directory's names in their order, or sorted by their bytes.
func TestOrder(t *testing.T) {
	g := gate(t, small()...)
	tells(t, "in their order", g, 0, -1, list("/"), "pre / 0", "pre /a 1", "pre /a/z 2", "file /a/z/2 3", "file /a/z/1 3", "file /a/f 2", "pre /a/e 2", "pre /a/B 2", "pre /a/B/B 3", "file /a/B/B/x 4", "file /g 1")
	tells(t, "sorted", g, sorted, -1, list("/g", "/"), "file /g 0", "pre / 0", "pre /a 1", "pre /a/B 2", "pre /a/B/B 3", "file /a/B/B/x 4", "pre /a/e 2", "file /a/f 2", "pre /a/z 2", "file /a/z/1 3", "file /a/z/2 3", "file /g 1")
	good(t, "Unlink", g.Unlink("/a/f")) // its slot is taken by the next name
	grow(t, g.Proc(), "f /a/new 1")
	tells(t, "a slot again", g, 0, 1, list("/a"), "pre /a 0", "pre /a/z 1", "file /a/new 1", "pre /a/e 1", "pre /a/B 1")
	g = gate(t, "f /\xff 1", "f /b 1", "f /a- 1", "f /\x01 1", "f /a 1", "f /A 1", "f /.h 1", "f /a0 1", "f /... 1", "f /é 1")
	tells(t, "bytes", g, sorted, -1, list("/"), "pre / 0", "file /\x01 1", "file /... 1", "file /.h 1", "file /A 1", "file /a 1", "file /a- 1", "file /a0 1", "file /b 1", "file /é 1", "file /\xff 1")
}

// P14.1: how deep a walk goes.
func TestDepth(t *testing.T) {
	g := gate(t, "d /a", "d /a/b", "f /a/f 1", "d /a/b/c", "f /a/b/c/d 1")
	whole := list("pre /a 0", "pre /a/b 1", "pre /a/b/c 2", "file /a/b/c/d 3", "post /a/b/c 2", "post /a/b 1", "file /a/f 1", "post /a 0")
	for _, d := range []int{-1, -2, math.MinInt, math.MinInt + 1, 3, 4, 100, math.MaxInt} {
		tells(t, fmt.Sprint("depth ", d), g, post, d, list("/a"), whole...)
	}
	for d := range 3 {
		var some []string
		for _, l := range whole {
			if number(t, l[len(l)-1:], 10) <= d {
				some = append(some, l)
			}
		}
		tells(t, fmt.Sprint("depth ", d), g, post, d, list("/a"), some...)
		tells(t, fmt.Sprint("depth ", d, ", twice"), g, post|sorted, d, list("/a", "/a"), append(some[:len(some):len(some)], some...)...)
	}
	tells(t, "depth 0", g, 0, 0, list("/a", "/a/f", "/x", "/a/b"), "pre /a 0", "file /a/f 0", "err /x 0 2", "pre /a/b 0")
}

// What is not gone into is not read.
func TestDepthReadsNothing(t *testing.T) {
	for d, want := range [][]int{{0, 0, 0, 0, 1}, {1, 5, 1, 0, 3}, {2, 9, 2, 0, 4}, {3, 13, 3, 0, 5}, {3, 13, 3, 0, 5}} {
		g := gate(t, "d /a", "d /a/b", "f /a/f 1", "d /a/b/c", "f /a/b/c/d 1")
		asked(t, walk.New(g, post|sorted, d, "/a"))
		counted(t, fmt.Sprint("depth ", d), g, want...)
	}
}

// P14.1: each flag alone, several, all at once; bits without a name say nothing.
func TestFlags(t *testing.T) {
	g := gate(t, "d /t", "f /t/z 1", "d /t/d", "f /t/d/y 1", "l /t/a d", "l /t/x z", "l /r t", "d /o", "l /o/up ..")
	for flags := range 16 {
		var from, in []string
		z, x, d, y := "file %s/z 1", "file %s/x 1", "pre %s/d 1", "file %s/d/y 2"
		a := list("file %s/a 1")
		if flags&logical != 0 {
			a = list("pre %s/a 1", "file %s/a/y 2")
			if flags&post != 0 {
				a = append(a, "post %s/a 1")
			}
		}
		dir := list(d, y)
		if flags&post != 0 {
			dir = append(dir, "post %s/d 1")
		}
		in = slices.Concat(list("pre %s 0", z), dir, a, list(x))
		if flags&sorted != 0 {
			in = slices.Concat(list("pre %s 0"), a, dir, list(x, z))
		}
		if flags&post != 0 {
			in = append(in, "post %s 0")
		}
		var want []string
		for _, root := range list("/t", "/r") {
			from = append(from, root)
			if root == "/r" && flags&(logical|roots) == 0 {
				want = append(want, "file /r 0")
				continue
			}
			for _, l := range in {
				want = append(want, strings.ReplaceAll(l, "%s", root))
			}
		}
		for _, more := range []int{0, 16, 32, 1 << 20, ^15, math.MinInt, math.MaxInt &^ 15} {
			tells(t, fmt.Sprint("flags ", flags, " and ", more), g, flags|more, -1, from, want...)
		}
	}
}

// Empty directories, and directories of many names.
func TestSizes(t *testing.T) {
	g := gate(t, "d /e")
	tells(t, "empty", g, post, -1, list("/e"), "pre /e 0", "post /e 0")
	tells(t, "empty", g, 0, -1, list("/e"), "pre /e 0")
	tells(t, "an empty file system", gate(t), 15, -1, list("/"), "pre / 0", "post / 0")
	want := list("pre /e 0")
	for i := range 80 {
		grow(t, g.Proc(), fmt.Sprintf("f /e/%d 0", i))
		want = append(want, fmt.Sprintf("file /e/%d 1", i))
	}
	tells(t, "many names", g, post, -1, list("/e"), append(want, "post /e 0")...)
}

// A step is taken when it is asked for, not ahead of that.
func TestOneStepAtATime(t *testing.T) {
	g := gate(t, "d /a", "f /a/f 1", "d /a/d", "f /a/d/x 1", "l /a/l d", "d /e")
	w := walk.New(g, post, -1, "/a", "/x", "/e")
	counted(t, "New", g, 0, 0, 0, 0, 0)
	for _, s := range []struct {
		want  string
		calls []int
	}{
		{"pre /a 0", []int{0, 0, 0, 0, 1}},
		{"file /a/f 1", []int{1, 6, 1, 0, 2}},
		{"pre /a/d 1", []int{1, 6, 1, 0, 3}},
		{"file /a/d/x 2", []int{2, 10, 2, 0, 4}},
		{"post /a/d 1", []int{2, 10, 2, 0, 4}},
		{"file /a/l 1", []int{2, 10, 2, 0, 5}},
		{"post /a 0", []int{2, 10, 2, 0, 5}},
		{"err /x 0 2", []int{2, 10, 2, 0, 6}},
		{"pre /e 0", []int{2, 10, 2, 0, 7}},
		{"post /e 0", []int{3, 13, 3, 0, 7}},
	} {
		v, ok := w.Next()
		same(t, "Next", []any{line(v), ok}, []any{s.want, true})
		counted(t, "behind "+s.want, g, s.calls...)
		same(t, "Fds", g.Fds(), []int{})
	}
	same(t, "the end", asked(t, w), []api.Visit{})
	counted(t, "behind the end", g, 3, 13, 3, 0, 7)
}

// Two walks on one gate do not know of each other.
func TestTwoWalks(t *testing.T) {
	g := gate(t, small()...)
	whole := text(asked(t, walk.New(g, post, -1, "/")))
	for ahead := range 15 {
		a, b := walk.New(g, post, -1, "/"), walk.New(g, post, -1, "/")
		var l, m []api.Visit
		for range ahead {
			v, _ := a.Next()
			l = append(l, v)
		}
		for v, ok := b.Next(); ok; v, ok = b.Next() {
			m = append(m, v)
			if v, ok := a.Next(); ok {
				l = append(l, v)
			}
		}
		l = append(l, asked(t, a)...)
		same(t, "one", text(l[:len(m)]), whole)
		same(t, "the other", text(m), whole)
	}
}
