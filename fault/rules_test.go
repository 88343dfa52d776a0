package fault_test

import (
	"math"
	"reflect"
	"slices"
	"strings"
	"sync"
	"testing"

	"tinsel/api"
	"tinsel/fault"
)

// The chapter's examples.
func TestExamples(t *testing.T) {
	open, read, getcwd := fails("open", 2, api.EIO), short("read", 1, 3), fails("getcwd", 1, api.EIO)
	g := fault.New(made(t), open, read, fails("close", 1, api.ENOSPC), getcwd)
	fd, e := g.Open("f", rw|create, 0o666)
	same(t, "the first Open", []any{fd, e}, []any{0, api.OK})
	put(t, g.Proc(), 0, "0123456789")
	_, e = g.Seek(0, 0, api.SeekSet)
	good(t, "Seek", e)
	fd, e = g.Open("f", rd, 0)
	same(t, "the second Open", []any{fd, e}, []any{0, api.EIO})
	fd, e = g.Open("f", rd, 0)
	same(t, "the third Open", []any{fd, e}, []any{1, api.OK})
	gets(t, g, 0, 10, "012")
	is(t, "Close", g.Close(0), api.OK)
	s, e := g.Getcwd()
	same(t, "the first Getcwd", []any{s, e}, []any{"", api.EIO})
	s, e = g.Getcwd()
	same(t, "the second Getcwd", []any{s, e}, []any{"/", api.OK})
	given(t, g, open, read, getcwd)
}

// noGate: R5: what a gate that no call made answers.
func noGate(t *testing.T, g *fault.Gate) {
	t.Helper()
	for range 2 {
		for _, call := range append(slices.Clone(names), "tape", "taped") {
			s := working(call)
			s.bytes = "text"
			same(t, call, do(g, s), zeros(call, api.EFAULT))
			s.fd, s.path, s.n, s.at = math.MinInt, "", math.MaxInt, -1
			same(t, call, do(g, s), zeros(call, api.EFAULT))
		}
		g.CloseAll()
		a, b, c, d := g.Statfs()
		same(t, "Statfs", []int{a, b, c, d}, []int{0, 0, 0, 0})
		same(t, "Umask", []api.Mode{g.Umask(0o777), g.Umask(0o22)}, []api.Mode{0, 0})
		same(t, "Cred", g.Cred(), api.Cred{})
		same(t, "Fds", len(g.Fds()), 0)
		if g.FS() != nil || g.Proc() != nil {
			t.Errorf("a file system %v, a process %v", g.FS(), g.Proc())
		}
		given(t, g)
		counted(t, g, 0, map[string]int{"open": 0, "read": 0, "tape": 0, "": 0})
	}
}

// R5: a gate that no call made.
func TestNoGate(t *testing.T) {
	for _, g := range []*fault.Gate{nil, {}, new(fault.Gate)} {
		noGate(t, g)
	}
}

// The chapter's list of methods is the whole of them, and none of a gate that
// is nil panics.
func TestMethods(t *testing.T) {
	want := strings.Fields("Proc Calls Count Given FS Cred Fds Open Tape Taped Pipe Read Write Seek Close CloseAll Dup Dup2 Fstat Ftruncate Readdir Chdir Getcwd Umask Mkdir Rmdir Link Unlink Rename Symlink Readlink Chmod Chown Utime Truncate Stat Lstat Access Statfs")
	slices.Sort(want)
	v := reflect.ValueOf((*fault.Gate)(nil))
	var got []string
	for i := range v.NumMethod() {
		got = append(got, v.Type().Method(i).Name)
		var in []reflect.Value
		for k := range v.Method(i).Type().NumIn() {
			in = append(in, reflect.Zero(v.Method(i).Type().In(k)))
		}
		for _, out := range v.Method(i).Call(in) {
			if e, ok := out.Interface().(api.Errno); ok {
				is(t, got[i], e, api.EFAULT)
			} else if !out.IsZero() {
				t.Errorf("%s: %v", got[i], out)
			}
		}
	}
	same(t, "methods", got, want)
}

// R1, R2: whatever a call is given, it ends; beside an error there is nothing.
func TestAnyArguments(t *testing.T) {
	odd := []string{"", "/", ".", "..", "/f", "no/x", "\x00", "/\xff\n", strings.Repeat("/", 256), strings.Repeat("a", 5000)}
	numbers := []int{0, 1, -1, 2, 5, 15, 16, 17, 300, math.MaxInt, math.MinInt, math.MaxInt32, 1 << 62}
	for _, call := range names {
		plan := []api.Choice{fails(call, 3, api.EIO), fails(call, 10, api.EIO), short(call, 5, math.MaxInt), short(call, 6, 1)}
		g := fault.New(busy(t), plan...)
		p := fault.New(busy(t), plan...)
		for i, path := range odd {
			for k, n := range numbers {
				s := step{call: call, fd: numbers[(i+k)%len(numbers)], n: n, at: numbers[(i+2*k)%len(numbers)], path: path, to: odd[k%len(odd)], bytes: count(k * 40), mode: api.Mode(n), when: math.MinInt64, then: math.MaxInt64, follow: k%2 == 0}
				got := do(g, s)
				same(t, s.String()+", again", do(p, s), got)
				if !strings.HasPrefix(got, "0 ") && got[strings.Index(got, " "):] != zeros(call, 0)[1:] {
					t.Errorf("%v: something beside an error: %s", s, brief(got))
				}
			}
		}
		same(t, "Calls", g.Calls(), len(odd)*len(numbers))
		given(t, g, p.Given()...)
	}
}

// R1: choices of any kind.
func TestAnyPlan(t *testing.T) {
	numbers := []int{0, 1, -1, 2, math.MaxInt, math.MinInt, math.MaxInt32, 1 << 32, 103, 104}
	var plan []api.Choice
	for i, call := range slices.Concat(noCalls, names) {
		for k, n := range numbers {
			plan = append(plan, api.Choice{Call: call, Nth: n, Errno: api.Errno(numbers[(i+k)%len(numbers)]), Short: numbers[(i+2*k)%len(numbers)]})
		}
	}
	for len(plan) > 0 {
		part := plan[:min(len(plan), 97)]
		plan = plan[len(part):]
		m := &model{p: busy(t), plan: part}
		g := fault.New(busy(t), part...)
		for range 3 {
			for _, call := range names {
				same(t, call, do(g, working(call)), m.do(working(call)))
			}
		}
		m.compare(t, "any plan", g)
	}
}

// spoil: all that belongs to a list, its spare room too.
func spoil[T any](l []T, with T) {
	l = l[:cap(l)]
	for i := range l {
		l[i] = with
	}
}

// R3: the plan is the caller's: not changed, not kept.
func TestPlanIsLeft(t *testing.T) {
	all := []api.Choice{fails("mkdir", 1, api.EIO), fails("mkdir", 1, api.EBADF), fails("mkdir", 2, api.EPERM), short("mkdir", 3, 1), fails("mkdir", 3, api.EROFS)}
	was := slices.Clone(all)
	g := fault.New(made(t), all[:3]...)
	same(t, "the plan", all, was)
	spoil(all, fails("mkdir", 2, api.ENOSPC))
	same(t, "Mkdir", answers(t, g, 4), list(api.EIO, api.EPERM, 0, 0))
	given(t, g, was[0], was[2])
	same(t, "the plan", all, slices.Repeat([]api.Choice{fails("mkdir", 2, api.ENOSPC)}, 5))
}

// R3: what Given tells is new memory, and stays as it was.
func TestGivenIsNew(t *testing.T) {
	plan := []api.Choice{fails("mkdir", 1, api.EIO), fails("mkdir", 2, api.EPERM), fails("mkdir", 3, api.EROFS), fails("mkdir", 4, api.EMLINK)}
	g := fault.New(made(t), plan...)
	var told [][]api.Choice
	for i := range plan {
		spoil(g.Given(), fails("open", 1, api.EIO))
		told = append(told, g.Given())
		given(t, g, plan[:i]...)
		is(t, "Mkdir", g.Mkdir("/x", 0), plan[i].Errno)
		spoil(g.Given(), api.Choice{})
		given(t, g, plan[:i+1]...)
	}
	for i, l := range told {
		if !slices.Equal(l, plan[:i]) {
			t.Errorf("what Given told has changed: %+v", l)
		}
	}
	same(t, "Mkdir", answers(t, g, 2), list(0, 0))
}

// R3: bytes that are handed in are neither changed nor kept, those that are
// answered are new, also of short calls.
func TestBytes(t *testing.T) {
	for _, fd := range []int{file, tape, sink, end} {
		for _, plan := range [][]api.Choice{nil, {short("write", 1, 3), short("read", 1, 2)}, {fails("write", 1, api.EIO)}} {
			p := busy(t)
			g := fault.New(busy(t), plan...)
			all := []byte("..text..")
			n, e := g.Write(fd, all[2:6])
			same(t, "the bytes", string(all), "..text..")
			spoil(all, 0)
			if e == api.OK {
				put(t, p, fd, "text"[:n])
			}
			for _, from := range []int{file, tape, source} {
				b, _ := g.Read(from, 4)
				kept := string(b)
				spoil(b, 0xee)
				gets(t, p, from, len(kept), kept)
			}
			same(t, "state", state(g.Proc()), state(p))
			same(t, "places", used(g.Proc()), used(p))
		}
	}
	g := fault.New(busy(t))
	text := []byte("tape..")
	fd, e := g.Tape(text[:4])
	good(t, "Tape", e)
	spoil(text, 0)
	b, e := g.Taped(fd)
	good(t, "Taped", e)
	spoil(b, 0xee)
	onTape(t, g, fd, "tape")
	spoil(g.Fds(), 9)
	same(t, "Fds", g.Fds(), []int{0, 1, 2, 3, 4, 5, 6})
}

// R4: the same calls, the same answers, whatever other gates do meanwhile.
func TestOneOutcome(t *testing.T) {
	run := func() string {
		d, told := dice(99), ""
		var plan []api.Choice
		for range 300 {
			plan = append(plan, d.choice())
		}
		g := fault.New(busy(t), plan...)
		for range 300 {
			told += do(g, d.step())
		}
		for _, c := range g.Given() {
			told += c.Call
		}
		return told + state(g.Proc()) + used(g.Proc())
	}
	want := run()
	var all [8]string
	var done sync.WaitGroup
	for i := range all {
		done.Go(func() { all[i] = run() })
	}
	done.Wait()
	for _, got := range all {
		same(t, "again", got, want)
	}
}
