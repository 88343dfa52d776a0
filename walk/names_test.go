package walk_test

import (
	"fmt"
	"slices"
	"strings"
	"testing"

	"tinsel/api"
	"tinsel/fault"
	"tinsel/walk"
)

// names: those of entries.
func names(l []api.Entry) string {
	var s []string
	for _, x := range l {
		s = append(s, x.Name)
	}
	return strings.Join(s, " ")
}

// P14.3: Join.
func TestJoin(t *testing.T) {
	for _, v := range [][3]string{
		{"/", "a", "/a"}, {"a/", "b", "a/b"}, {"", "b", "b"}, {"a", "b", "a/b"}, {"/a", "b", "/a/b"}, {"a//", "b", "a//b"}, {"//", "b", "//b"},
		{"", "", ""}, {"a", "", "a/"}, {"/", "", "/"}, {"a/", "", "a/"}, {"a", "/b", "a//b"}, {"a/", "/b", "a//b"}, {"", "/b", "/b"}, {"", "/", "/"},
		{".", "b", "./b"}, {"..", "b", "../b"}, {"a/.", "..", "a/./.."}, {"\x00", "\xff", "\x00/\xff"}, {" ", " ", " / "}, {"é", "é", "é/é"}, {"a\\", "b", "a\\/b"},
		{strings.Repeat("x", 300), strings.Repeat("y", 30), strings.Repeat("x", 300) + "/" + strings.Repeat("y", 30)},
	} {
		same(t, fmt.Sprintf("Join(%q, %q)", v[0], v[1]), walk.Join(v[0], v[1]), v[2])
	}
}

// P14.3: the entries in their order, or by their names' bytes.
func TestNames(t *testing.T) {
	p := grown(t, "d /a", "f /a/z 1", "d /a/B", "l /a/m /no", "f /a/a 70", "h /a/.h /a/a", "f /a/... 1", "d /a/é", "f /e 1", "d /o", "l /l a", "l /lf e", "l /no x", "l /me me")
	for _, dir := range list("/a", "a", "/a/", "a//", "/a/.", "/o/../a", "/l", "l/", "/a/B/..") {
		for _, v := range []struct {
			sorted bool
			want   string
		}{{false, "z B m a .h ... é"}, {true, "... .h B a m z é"}} {
			g := fault.New(p)
			l, e := walk.Names(g, dir, v.sorted)
			same(t, dir, []any{names(l), e}, []any{v.want, api.OK})
			counted(t, dir, g, 1, 10, 1, 0, 0)
			for _, x := range l {
				st, e := p.Lstat("/a/" + x.Name)
				good(t, "Lstat", e)
				same(t, x.Name, x, api.Entry{Name: x.Name, Ino: st.Ino, Kind: st.Mode & api.TypeMask})
			}
			same(t, "Fds", g.Fds(), []int{})
		}
	}
	l, e := walk.Names(fault.New(p), "/", true)
	same(t, "/", []any{names(l), e}, []any{"a e l lf me no o", api.OK})
}

// P14.3: where there are none, or no directory.
func TestNamesOfOthers(t *testing.T) {
	p := grown(t, "d /a", "d /a/b", "f /e 1", "l /lf e", "l /no x", "l /me me")
	state1 := state(p)
	for _, v := range []struct {
		path string
		want api.Errno
	}{
		{"/a/b", api.OK}, {"/e", api.ENOTDIR}, {"/e/", api.ENOTDIR}, {"/e/x", api.ENOTDIR}, {"/lf", api.ENOTDIR}, {"/x", api.ENOENT}, {"/x/y", api.ENOENT}, {"", api.ENOENT},
		{"/no", api.ENOENT}, {"/no/", api.ENOENT}, {"/me", api.ELOOP}, {"/me/", api.ELOOP}, {"a\x00", api.EINVAL}, {strings.Repeat("n", 28), api.ENAMETOOLONG}, {strings.Repeat("/", 256), api.ENAMETOOLONG}, {strings.Repeat("/", 255) + "a", api.ENAMETOOLONG},
	} {
		for _, order := range []bool{false, true} {
			g := fault.New(p)
			l, e := walk.Names(g, v.path, order)
			same(t, fmt.Sprintf("%.40q", v.path), []any{len(l), e}, []any{0, v.want})
			if v.want == api.OK {
				counted(t, v.path, g, 1, 3, 1, 0, 0)
			} else {
				counted(t, v.path, g, 1, 0, 0, 0, 0)
			}
		}
	}
	same(t, "left behind", state(p), state1)
}

// P14.3, R5: of a gate that no call made.
func TestNamesOfNoGate(t *testing.T) {
	for _, g := range noGates() {
		for _, path := range list("/", "", "/x", "a\x00") {
			l, e := walk.Names(g, path, true)
			same(t, "Names", []any{len(l), e}, []any{0, api.EFAULT})
		}
		same(t, "calls", g.Calls(), 0)
	}
}

// P14.3: the first error; what was read stands beside it.
func TestNamesFail(t *testing.T) {
	lines := list("d /a", "f /a/c 1", "f /a/b 1", "f /a/a 1")
	for _, v := range []struct {
		plan  []api.Choice
		order bool
		want  string
		e     api.Errno
		calls []int
	}{
		{nil, false, "c b a", api.OK, []int{1, 6, 1, 0, 0}},
		{[]api.Choice{fails("open", 1, api.EIO)}, false, "", api.EIO, []int{1, 0, 0, 0, 0}},
		{[]api.Choice{fails("open", 1, api.EINTR)}, false, "", api.EINTR, []int{1, 0, 0, 0, 0}},
		{[]api.Choice{fails("open", 1, api.EMFILE), fails("close", 1, api.EIO)}, true, "", api.EMFILE, []int{1, 0, 0, 0, 0}},
		{[]api.Choice{fails("readdir", 1, api.EIO)}, true, "", api.EIO, []int{1, 1, 1, 0, 0}},
		{[]api.Choice{fails("readdir", 2, api.EIO)}, true, "", api.EIO, []int{1, 2, 1, 0, 0}},
		{[]api.Choice{fails("readdir", 3, api.EIO)}, true, "", api.EIO, []int{1, 3, 1, 0, 0}},
		{[]api.Choice{fails("readdir", 4, api.EIO)}, true, "c", api.EIO, []int{1, 4, 1, 0, 0}},
		{[]api.Choice{fails("readdir", 5, api.EIO)}, false, "c b", api.EIO, []int{1, 5, 1, 0, 0}},
		{[]api.Choice{fails("readdir", 5, api.EIO)}, true, "b c", api.EIO, []int{1, 5, 1, 0, 0}},
		{[]api.Choice{fails("readdir", 6, api.EIO)}, true, "a b c", api.EIO, []int{1, 6, 1, 0, 0}},
		{[]api.Choice{fails("readdir", 7, api.EIO)}, true, "a b c", api.OK, []int{1, 6, 1, 0, 0}},
		{[]api.Choice{fails("close", 1, api.EIO)}, false, "c b a", api.EIO, []int{1, 6, 1, 0, 0}},
		{[]api.Choice{fails("close", 1, api.EIO)}, true, "a b c", api.EIO, []int{1, 6, 1, 0, 0}},
		{[]api.Choice{fails("close", 1, api.EIO), fails("readdir", 4, api.EIO)}, true, "c", api.EIO, []int{1, 4, 1, 0, 0}},
	} {
		g := fault.New(grown(t, lines...), v.plan...)
		what := fmt.Sprintf("%+v", v.plan)
		l, e := walk.Names(g, "/a", v.order)
		same(t, what, []any{names(l), e}, []any{v.want, v.e})
		counted(t, what, g, v.calls...)
		open := 0
		if slices.Contains(v.plan, fails("close", 1, api.EIO)) && g.Count("close") > 0 {
			open = 1 // a Close that fails closes nothing, and is not asked again
		}
		same(t, what+": Fds", len(g.Fds()), open)
	}
}

// No descriptor is free: Names says so, and one that is free is enough.
func TestDescriptors(t *testing.T) {
	g := gate(t, "d /a", "f /a/f 1")
	var fds []int
	for len(g.Fds()) < api.OpenMax {
		fd, e := g.Proc().Tape(nil)
		good(t, "Tape", e)
		fds = append(fds, fd)
	}
	l, e := walk.Names(g, "/a", false)
	same(t, "none is free", []any{len(l), e}, []any{0, api.EMFILE})
	tells(t, "none is free", g, post, -1, list("/a"), "pre /a 0", "err /a 0 24", "post /a 0")
	good(t, "Close", g.Proc().Close(fds[5]))
	l, e = walk.Names(g, "/a", false)
	same(t, "one is free", []any{names(l), e}, []any{"f", api.OK})
	tells(t, "one is free", g, post, -1, list("/a"), "pre /a 0", "file /a/f 1", "post /a 0")
	same(t, "Fds", len(g.Fds()), api.OpenMax-1)
}

// R3: an answer is new memory, its spare room too.
func TestNamesAreNew(t *testing.T) {
	g := gate(t, "d /a", "f /a/c 1", "f /a/b 1", "f /a/a 1")
	for range 2 {
		a, _ := walk.Names(g, "/a", false)
		b, _ := walk.Names(g, "/a", true)
		w := walk.New(g, 0, -1, "/a")
		w.Next()
		w.Next()
		for _, l := range [][]api.Entry{a, b} {
			l = l[:cap(l)]
			for i := range l {
				l[i] = api.Entry{Name: "X", Ino: 77, Kind: 77}
			}
		}
		same(t, "what is left of the walk", text(asked(t, w)), "file /a/b 1\nfile /a/a 1\n")
		c, _ := walk.Names(g, "/a", false)
		same(t, "again", names(c), "c b a")
	}
}
