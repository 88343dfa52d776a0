package walk_test

import (
	"fmt"
	"math"
	"slices"
	"strings"
	"sync"
	"testing"

	"tinsel/api"
	"tinsel/fault"
	"tinsel/walk"
)

// Numbers at their ends, and in between.
var oddNumbers = []int{0, 1, 2, 3, 4, 8, 15, 16, 255, -1, -2, -16, math.MaxInt, math.MaxInt - 1, math.MinInt, math.MinInt + 1, math.MaxInt32, math.MinInt32}

// oddPaths: paths of any bytes, and such as are too long.
func oddPaths() []string {
	l := list("", "/", "//", ".", "..", "/..", "a", "/a", "a/", "a/b", "/a/./../a", "\x00", "a\x00", "/a/\x00", "\xff", "\xff\xfe/\x80", "é", " ", "\n", "*", "~", "-", "--", "...", "\\", "a\\b", "/a/l", "/a/l/", "/a/me", "/a/me/", "/a/f/")
	for _, n := range []int{26, 27, 28, 29, 254, 255, 256, 257, 5000} {
		l = append(l, strings.Repeat("n", n), strings.Repeat("/", n), strings.Repeat("a/", n/2), strings.Repeat("../", n/3)+"a", "/"+strings.Repeat("\x00", n))
	}
	return l
}

// R1, R4: whatever is given, each call ends, does not panic, tells the same
// again, and leaves nothing behind.
func TestOddArguments(t *testing.T) {
	lines := list("d /a", "f /a/f 1", "l /a/l .", "l /a/me me", "d /a/b", "f /a/b/x 100")
	p := grown(t, lines...)
	ahead := state(p)
	paths := oddPaths()
	for i, path := range paths {
		for k, n := range oddNumbers {
			depth := oddNumbers[(i+k)%len(oddNumbers)]
			other := paths[(i*7+k)%len(paths)]
			say := func() string {
				g := fault.New(p)
				l := asked(t, walk.New(g, n, depth, path, other))
				names, e := walk.Names(g, path, k%2 == 0)
				inodes, blocks, e2 := walk.Sum(g, n, path)
				return text(l) + fmt.Sprint(names, e, inodes, blocks, e2, walk.Join(path, other), g.Calls())
			}
			same(t, fmt.Sprintf("%.40q, %d", path, n), say(), say())
		}
	}
	same(t, "left behind", state(p), ahead)
}

// R1: every byte in a root, and many in names.
func TestAnyBytes(t *testing.T) {
	p := grown(t, "d /d")
	want := list("pre /d 0")
	for c := range 256 {
		name := string([]byte{byte(c)})
		if c%4 == 1 || c == ' ' || c == '\n' || c == 255 {
			good(t, "Symlink", p.Symlink("x", "/d/"+name))
			want = append(want, "file /d/"+name+" 1")
		}
		for _, root := range list(name, "/d/"+name, name+"/d", "a"+name+"a") {
			l := asked(t, walk.New(fault.New(p), logical, 0, root))
			same(t, fmt.Sprintf("%q", root), []any{len(l), l[0].Path, l[0].Depth}, []any{1, root, 0})
		}
	}
	tells(t, "names", fault.New(p), sorted, -1, list("/d"), want...)
}

// R1: a great many roots.
func TestManyRoots(t *testing.T) {
	g := gate(t, "d /a", "f /a/f 1")
	from := slices.Repeat(list("/a", "/x"), 5000)
	l := asked(t, walk.New(g, 0, -1, from...))
	same(t, "steps", len(l), 15000)
	for i, v := range l {
		if want := list("pre /a 0", "file /a/f 1", "err /x 0 2")[i%3]; line(v) != want {
			t.Fatalf("step %d: %s, want %s", i, line(v), want)
		}
	}
}

// R3: the list of roots is neither changed nor kept, nor the room behind it.
func TestRootsAreNotKept(t *testing.T) {
	g := gate(t, "d /a", "f /a/f 1", "d /b")
	room := list("/a", "/b", "room", "room")
	w := walk.New(g, post, -1, room[:2]...)
	seq := walk.All(g, post, -1, room[:2]...)
	want := "pre /a 0\nfile /a/f 1\npost /a 0\npre /b 0\npost /b 0\n"
	same(t, "roots", room, list("/a", "/b", "room", "room"))
	for i := range room {
		room[i] = "/x"
	}
	same(t, "New", text(asked(t, w)), want)
	for range 2 {
		same(t, "All", text(slices.Collect(seq)), want)
	}
	same(t, "roots", room, list("/x", "/x", "/x", "/x"))
	room = list("/a", "/b", "room")
	for range walk.All(g, post, -1, room[:1]...) {
		room[1], room[2] = "", ""
	}
	w = walk.New(g, 0, -1, room[:1]...)
	w.Next()
	room[0] = "/x"
	same(t, "changed on the way", text(asked(t, w)), "file /a/f 1\n")
}

// R3: what is told is a value: what becomes of the tree does not change it.
func TestToldStays(t *testing.T) {
	g := gate(t, "d /a", "f /a/f 1")
	w := walk.New(g, post, -1, "/a")
	v, _ := w.Next()
	had := v
	good(t, "Chmod", g.Chmod("/a", 0o700))
	v.Path, v.Stat.Ino, v.Kind, v.Depth = "/x", 77, api.VisitFile, 9
	w.Next()
	last, _ := w.Next()
	had.Kind = api.VisitPost
	same(t, "post tells what pre told", last, had)
}

// R2, R7: what a step does not tell is zero.
func TestZeros(t *testing.T) {
	g := gate(t, "d /a", "f /a/f 1", "l /a/l .")
	for _, root := range list("", "/x", "/a/f/", "a\x00", strings.Repeat("n", 300)) {
		for flags := range 16 {
			l := asked(t, walk.New(g, flags, -1, root))
			same(t, "steps", len(l), 1)
			same(t, "an error", l[0], api.Visit{Kind: api.VisitErr, Path: root, Errno: l[0].Errno})
			if l[0].Errno == api.OK {
				t.Errorf("%q: no error", root)
			}
		}
	}
	for _, v := range asked(t, walk.New(g, logical|post, -1, "/a")) {
		same(t, line(v), v.Errno, api.OK)
	}
}

// R5: a gate whose object is no more one that a call made.
func TestGateThatIsNoMore(t *testing.T) {
	g := gate(t, "d /a", "f /a/f 1")
	w := walk.New(g, 0, -1, "/a")
	w.Next()
	*g = fault.Gate{}
	for range 2 {
		v, ok := w.Next()
		same(t, "Next", []any{v, ok}, []any{api.Visit{}, false})
	}
}

// A copy of a walker does no harm.
func TestCopies(t *testing.T) {
	g := gate(t, small()...)
	for n := range 16 {
		w := walk.New(g, post, -1, "/a")
		for range n {
			w.Next()
		}
		c := *w
		w.Skip()
		w.Next()
		w.Next()
		for range 30 {
			c.Next()
			w.Next()
		}
		c.Skip()
	}
}

// R4: what many do at once, each with objects of its own, is what one does.
func TestManyAtOnce(t *testing.T) {
	want := text(asked(t, walk.New(gate(t, small()...), 15, -1, "/")))
	var all sync.WaitGroup
	for range 16 {
		g := gate(t, small()...)
		all.Go(func() {
			for range 5 {
				if got := text(slices.Collect(walk.All(g, 15, -1, "/"))); got != want {
					t.Errorf("%s", got)
				}
				walk.Sum(g, 15, "/")
			}
		})
	}
	all.Wait()
}
