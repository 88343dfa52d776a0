package walk_test

import (
	"fmt"
	"iter"
	"slices"
	"strconv"
	"strings"
	"testing"

	"tinsel/api"
	"tinsel/desc"
	"tinsel/fault"
	"tinsel/tree"
	"tinsel/walk"
)

// The calls, with the signatures that the chapter lists.
var (
	_ func(*fault.Gate, int, int, ...string) *walk.Walker        = walk.New
	_ func(*walk.Walker) (api.Visit, bool)                       = (*walk.Walker).Next
	_ func(*walk.Walker)                                         = (*walk.Walker).Skip
	_ func(*fault.Gate, int, int, ...string) iter.Seq[api.Visit] = walk.All
	_ func(string, string) string                                = walk.Join
	_ func(*fault.Gate, string, bool) ([]api.Entry, api.Errno)   = walk.Names
	_ func(*fault.Gate, int, string) (int, int, api.Errno)       = walk.Sum
)

// The flags by short names.
const (
	logical = api.WalkLogical
	roots   = api.WalkRoots
	sorted  = api.WalkSorted
	post    = api.WalkPost
)

// The calls that a walk makes.
var callNames = []string{"open", "readdir", "close", "stat", "lstat"}

// brief: a text, or how it begins and how long it is.
func brief(s string) string {
	if len(s) <= 1500 {
		return s
	}
	return fmt.Sprintf("%s.. (%d bytes)", s[:1500], len(s))
}

// same: are they told alike?
func same(t *testing.T, what string, got, want any) {
	t.Helper()
	if a, b := fmt.Sprintf("%+v", got), fmt.Sprintf("%+v", want); a != b {
		t.Errorf("%s:\n%s\nwant\n%s", what, brief(a), brief(b))
	}
}

// good: a call that all else in a test hangs on.
func good(t *testing.T, what string, e api.Errno) {
	t.Helper()
	if e != api.OK {
		t.Fatalf("%s: %d (%v)", what, int(e), e)
	}
}

// fails: the choice that the nth call of a name fails so.
func fails(call string, nth int, e api.Errno) api.Choice {
	return api.Choice{Call: call, Nth: nth, Errno: e}
}

// number: what a test's own line says.
func number(t *testing.T, s string, base int) int {
	t.Helper()
	n, err := strconv.ParseInt(s, base, 64)
	if err != nil {
		t.Fatal(err)
	}
	return int(n)
}

// grow: what a line says is made: d PATH (a directory), f PATH BYTES, l PATH
// TARGET (a symbolic link), h PATH OLD (one more name of OLD), m PATH MODE.
func grow(t *testing.T, p *desc.Proc, line string) {
	t.Helper()
	w := strings.Fields(line)
	switch w[0] {
	case "d":
		good(t, line, p.Mkdir(w[1], 0o777))
	case "f":
		fd, e := p.Open(w[1], api.Write|api.Create|api.Excl, 0o666)
		good(t, line, e)
		n := number(t, w[2], 10)
		got, e := p.Write(fd, make([]byte, n))
		good(t, line, e)
		same(t, line, got, n)
		good(t, line, p.Close(fd))
	case "l":
		good(t, line, p.Symlink(w[2], w[1]))
	case "h":
		good(t, line, p.Link(w[2], w[1]))
	case "m":
		good(t, line, p.Chmod(w[1], api.Mode(number(t, w[2], 8))))
	default:
		t.Fatal("no such line: ", line)
	}
}

// grown: root's process on a new file system in which these lines were made,
// each at a time of its own.
func grown(t *testing.T, lines ...string) *desc.Proc {
	t.Helper()
	fs, e := tree.New(900, 120)
	good(t, "tree.New", e)
	p, e := desc.New(fs, api.Cred{})
	good(t, "desc.New", e)
	for i, l := range lines {
		fs.Clock(int64(100 + i))
		grow(t, p, l)
	}
	fs.Clock(99999) // so that a time that is written down would show
	return p
}

// gate: a gate before such a process.
func gate(t *testing.T, lines ...string) *fault.Gate {
	t.Helper()
	return fault.New(grown(t, lines...))
}

// as: another one's process on the same file system.
func as(t *testing.T, p *desc.Proc, uid int) *desc.Proc {
	t.Helper()
	q, e := desc.New(p.FS(), api.Cred{Uid: uid, Gid: uid})
	good(t, "desc.New", e)
	return q
}

// twin: a process just like p, on a copy of its file system.
func twin(t *testing.T, p *desc.Proc) *desc.Proc {
	t.Helper()
	q, e := desc.New(p.FS().Copy(), p.Cred())
	good(t, "desc.New", e)
	return q
}

// line: a visit as the tests write it down: kind, path, depth, and the error.
func line(v api.Visit) string {
	kinds := map[int]string{api.VisitFile: "file", api.VisitPre: "pre", api.VisitPost: "post", api.VisitErr: "err", api.VisitCycle: "cycle"}
	s := fmt.Sprintf("%s %s %d", kinds[v.Kind], v.Path, v.Depth)
	if v.Errno != api.OK {
		s += fmt.Sprintf(" %d", int(v.Errno))
	}
	return s
}

// text: visits, a line each.
func text(l []api.Visit) string {
	var b strings.Builder
	for _, v := range l {
		b.WriteString(line(v) + "\n")
	}
	return b.String()
}

// asked: all that a walker tells when it is asked for one step after another.
func asked(t *testing.T, w *walk.Walker) []api.Visit {
	t.Helper()
	var l []api.Visit
	for v, ok := w.Next(); ok; v, ok = w.Next() {
		if l = append(l, v); len(l) > 200000 {
			t.Fatal("a walk without an end")
		}
	}
	for range 2 {
		if v, ok := w.Next(); ok || v != (api.Visit{}) {
			t.Errorf("behind the end: %+v, %v", v, ok)
		}
	}
	return l
}

// tells: the walk's steps are just these lines, by Next and by All, with
// stats that the process tells, too; nothing is changed by it.
func tells(t *testing.T, what string, g *fault.Gate, flags, depth int, from []string, want ...string) {
	t.Helper()
	ahead := state(g.Proc())
	all := ""
	for _, s := range want {
		all += s + "\n"
	}
	l := asked(t, walk.New(g, flags, depth, from...))
	if got := text(l); got != all {
		t.Errorf("%s:\n%swant\n%s", what, got, all)
	}
	for _, v := range l {
		rightStat(t, what, g.Proc(), flags, v)
	}
	same(t, what+": All", slices.Collect(walk.All(g, flags, depth, from...)), l)
	same(t, what+": left behind", state(g.Proc()), ahead)
}

// rightStat: is a visit's Stat what the process says of its path? (Of a path
// that can't be looked at it is zero.)
func rightStat(t *testing.T, what string, p *desc.Proc, flags int, v api.Visit) {
	t.Helper()
	want, e := p.Lstat(v.Path)
	if flags&logical != 0 || flags&roots != 0 && v.Depth == 0 {
		if st, e2 := p.Stat(v.Path); e2 != api.ENOENT && e2 != api.ELOOP {
			want, e = st, e2
		}
	}
	if v.Stat != want {
		t.Errorf("%s: %s: Stat %+v, want %+v (%v)", what, line(v), v.Stat, want, e)
	}
}

// counts: how often the gate saw each of a walk's calls, in the order of
// callNames, and that it saw no others.
func counts(t *testing.T, what string, g *fault.Gate) []int {
	t.Helper()
	var l []int
	all := 0
	for _, c := range callNames {
		l = append(l, g.Count(c))
		all += g.Count(c)
	}
	same(t, what+": Calls", g.Calls(), all)
	return l
}

// counted: just so many opens, readdirs, closes, stats and lstats.
func counted(t *testing.T, what string, g *fault.Gate, want ...int) {
	t.Helper()
	same(t, what+": calls", counts(t, what, g), want)
}

// state: all that is to be seen of a process and its file system.
func state(p *desc.Proc) string {
	var b strings.Builder
	fs, c := p.FS(), p.FS().Copy()
	cwd, e := p.Getcwd()
	fmt.Fprintln(&b, p.Cred(), cwd, e, p.Fds(), fs.Inodes(), fs.Used())
	for _, ino := range fs.Inodes() {
		st, _ := fs.Info(ino)
		entries, _ := fs.Entries(ino)
		bytes, _ := fs.ReadAt(ino, 0, api.MaxFile)
		held := 0 // counted on a copy
		for c.Release(ino) == api.OK {
			held++
		}
		fmt.Fprintf(&b, "%+v %v %q %d\n", st, entries, bytes, held)
	}
	return b.String()
}

// list: a list of texts, where a call's are written.
func list(l ...string) []string { return l }
