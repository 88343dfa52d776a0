package fault_test

import (
	"fmt"
	"slices"
	"testing"

	"tinsel/api"
	"tinsel/desc"
	"tinsel/fault"
)

// P8.1: Proc is the process itself.
func TestProc(t *testing.T) {
	p := made(t)
	g := fault.New(p, fails("open", 1, api.EIO))
	if g.Proc() != p || g.FS() != p.FS() {
		t.Error("another process")
	}
	counted(t, g, 0, map[string]int{"open": 0, "": 0})
	given(t, g)
}

// P8.1, P8.2: each call is counted by its name alone, whatever comes of it.
func TestCounts(t *testing.T) {
	for _, call := range names {
		g := fault.New(busy(t), fails(call, 2, api.EIO))
		for n := 1; n <= 4; n++ {
			s := working(call)
			if n > 2 {
				s.fd, s.path, s.n = shut, "no/no", -1 // which most refuse
			}
			do(g, s)
			for _, other := range names {
				want := 0
				if other == call {
					want = n
				}
				same(t, fmt.Sprint(n, " times ", call, ": Count of ", other), g.Count(other), want)
			}
			same(t, "Calls", g.Calls(), n)
		}
		given(t, g, fails(call, 2, api.EIO))
	}
}

// P8.2: what fails by itself has a number, too.
func TestFailuresAreCounted(t *testing.T) {
	c := fails("open", 4, api.EMFILE)
	g := fault.New(made(t), c)
	for i, want := range list(api.EINVAL, api.ENOENT, 0, api.EMFILE, api.ENOENT) {
		flags := []int{0, rd, wr | create, rw, rd}[i]
		_, e := g.Open([]string{"no", "no", "f", "f", ""}[i], flags, 0o666)
		is(t, fmt.Sprint("Open ", i+1), e, want)
	}
	given(t, g, c)
	counted(t, g, 5, map[string]int{"open": 5})
}

// P8.2: these are the process' own: neither counted nor chosen.
func TestUncounted(t *testing.T) {
	var plan []api.Choice
	for _, call := range noCalls {
		for nth := range 4 {
			plan = append(plan, fails(call, nth, api.EIO), short(call, nth, 1))
		}
	}
	plan = append(plan, fails("mkdir", 2, api.EIO))
	p := busy(t)
	g := fault.New(busy(t), plan...)
	mkdir := step{call: "mkdir", path: "new", mode: 0o777}
	for range 3 {
		for _, call := range slices.Concat(uncounted[1:], uncounted[:1]) {
			s := step{call: call, fd: tape, bytes: "text", mode: 0o027}
			if call == "taped" && len(p.Fds()) == 1 {
				s.fd = 0
			}
			same(t, call, do(g, s), do(p, s))
			same(t, "behind "+call, state(g.Proc()), state(p))
			same(t, "Count of "+call, g.Count(call), 0)
		}
		same(t, "Calls", g.Calls(), 0)
	}
	same(t, "Mkdir", do(g, mkdir), do(p, mkdir))
	g.Umask(0)
	g.CloseAll()
	g.Fds()
	g.Statfs()
	is(t, "the second Mkdir", g.Mkdir("other", 0o755), api.EIO)
	is(t, "the third Mkdir", g.Mkdir("other", 0o755), api.OK)
	given(t, g, fails("mkdir", 2, api.EIO))
	counted(t, g, 3, map[string]int{"mkdir": 3})
	for _, call := range noCalls {
		same(t, "Count of "+brief(call), g.Count(call), 0)
	}
}

// P8.1: two gates before one process count each for itself, and neither sees
// what goes past it.
func TestTwoGates(t *testing.T) {
	p := made(t)
	c := fails("mkdir", 2, api.EIO)
	a, b := fault.New(p, c), fault.New(p, c, fails("mkdir", 3, api.EPERM))
	is(t, "a, 1", a.Mkdir("/1", 0o755), api.OK)
	is(t, "past them", p.Mkdir("/2", 0o755), api.OK)
	is(t, "b, 1", b.Mkdir("/2", 0o755), api.EEXIST)
	is(t, "past them", p.Mkdir("/3", 0o755), api.OK)
	is(t, "b, 2", b.Mkdir("/4", 0o755), api.EIO)
	given(t, a)
	given(t, b, c)
	is(t, "a, 2", a.Mkdir("/4", 0o755), api.EIO)
	is(t, "b, 3", b.Mkdir("/4", 0o755), api.EPERM)
	is(t, "a, 3", a.Mkdir("/4", 0o755), api.OK)
	is(t, "b, 4", b.Mkdir("/4", 0o755), api.EEXIST)
	given(t, a, c)
	given(t, b, c, fails("mkdir", 3, api.EPERM))
	counted(t, a, 3, map[string]int{"mkdir": 3})
	counted(t, b, 4, map[string]int{"mkdir": 4})
}

// What one does is there for all that lead to the process.
func TestOneProcess(t *testing.T) {
	p := busy(t)
	a, b := fault.New(p), fault.New(p, short("read", 1, 2))
	gets(t, b, file, 9, "23")
	gets(t, a, file, 2, "45")
	gets(t, p, file, 9, "6789")
	is(t, "Close", a.Close(file), api.OK)
	noGet(t, b, file, 1, api.EBADF)
	same(t, "Umask", []api.Mode{a.Umask(0o77), b.Umask(0o22), p.Umask(0)}, []api.Mode{0, 0o77, 0o22})
	for _, x := range []caller{a, b} {
		same(t, "Fds", x.Fds(), p.Fds())
		same(t, "Cred", x.Cred(), p.Cred())
	}
	b.CloseAll()
	same(t, "Fds", []int{len(a.Fds()), len(p.Fds())}, []int{0, 0})
}

// P8.3: a gate before a process of another one's file system.
func TestGateOfAnother(t *testing.T) {
	p := made(t)
	q := proc(t, p.FS(), api.Cred{Uid: 7, Gid: 8, Groups: []int{9}, Umask: 0o027})
	g := fault.New(q)
	same(t, "Cred", g.Cred(), q.Cred())
	is(t, "Mkdir", g.Mkdir("/x", 0o777), api.EACCES)
	good(t, "Chmod", fault.New(p).Chmod("/", 0o777))
	is(t, "Mkdir", g.Mkdir("/x", 0o777), api.OK)
	st, e := g.Lstat("/x")
	same(t, "Lstat", []any{st.Mode, st.Uid, st.Gid, e}, []any{api.TypeDir | 0o750, 7, 8, api.OK})
	if g.Proc() != q {
		t.Error("another process")
	}
}

// R5: of a process that no call made.
func TestNoProcess(t *testing.T) {
	for _, p := range []*desc.Proc{nil, {}, new(desc.Proc)} {
		g := fault.New(p, fails("open", 1, api.EIO), fails("getcwd", 1, api.EIO), short("read", 1, 1))
		noGate(t, g)
	}
}
