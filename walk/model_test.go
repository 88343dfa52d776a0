package walk_test

import (
	"fmt"
	"math/rand"
	"slices"
	"sort"
	"strings"
	"testing"

	"tinsel/api"
	"tinsel/desc"
	"tinsel/fault"
	"tinsel/walk"
)

// model is a walk told by recursion: it asks a gate of its own, and is asked
// behind each step whether to skip.
type model struct {
	gate         *fault.Gate
	flags, depth int
	skip         func(step int) bool
	most         int // so many steps are told
	steps        []api.Visit
}

// tell: one more step; false: there were enough.
func (m *model) tell(kind int, path string, depth int, st api.Stat, e api.Errno) bool {
	m.steps = append(m.steps, api.Visit{Kind: kind, Path: path, Depth: depth, Stat: st, Errno: e})
	return len(m.steps) < m.most
}

// walk: over the roots.
func (m *model) walk(from []string) {
	for _, r := range from {
		if !m.come(r, 0, nil) {
			return
		}
	}
}

// come: to a path, above being the inodes of the directories it lies in;
// false: enough was told.
func (m *model) come(path string, depth int, above []int) bool {
	st, e := m.look(path, depth)
	if e != api.OK {
		return m.tell(api.VisitErr, path, depth, api.Stat{}, e)
	}
	if st.Mode&api.TypeMask != api.TypeDir {
		return m.tell(api.VisitFile, path, depth, st, 0)
	}
	if slices.Contains(above, st.Ino) {
		return m.tell(api.VisitCycle, path, depth, st, 0)
	}
	if !m.tell(api.VisitPre, path, depth, st, 0) {
		return false
	}
	if !m.skip(len(m.steps)) && (m.depth < 0 || depth < m.depth) {
		l, e := m.names(path, m.flags&sorted != 0)
		if e != api.OK && !m.tell(api.VisitErr, path, depth, st, e) {
			return false
		}
		slash := "/"
		if strings.HasSuffix(path, "/") {
			slash = ""
		}
		for _, x := range l {
			if !m.come(path+slash+x.Name, depth+1, append(slices.Clone(above), st.Ino)) {
				return false
			}
		}
	}
	return m.flags&post == 0 || m.tell(api.VisitPost, path, depth, st, 0)
}

// look: what a path is.
func (m *model) look(path string, depth int) (api.Stat, api.Errno) {
	if m.flags&logical == 0 && (m.flags&roots == 0 || depth > 0) {
		return m.gate.Lstat(path)
	}
	st, e := m.gate.Stat(path)
	if e == api.ENOENT || e == api.ELOOP {
		st, e = m.gate.Lstat(path)
	}
	return st, e
}

// names: what lies in a directory.
func (m *model) names(path string, byName bool) ([]api.Entry, api.Errno) {
	var l []api.Entry
	fd, first := m.gate.Open(path, api.Read|api.DirOnly, 0)
	if first != api.OK {
		return nil, first
	}
	for {
		x, ok, e := m.gate.Readdir(fd)
		if e != api.OK {
			first = e
		}
		if e != api.OK || !ok {
			break
		}
		if strings.Trim(x.Name, ".") != "" || len(x.Name) > 2 {
			l = append(l, x)
		}
	}
	if e := m.gate.Close(fd); first == api.OK {
		first = e
	}
	if byName {
		sort.Slice(l, func(i, k int) bool { return l[i].Name < l[k].Name })
	}
	return l, first
}

// sum: what Sum tells, by the steps of a walk.
func (m *model) sum() [3]int {
	blocks, first := map[int]int{}, 0
	for _, v := range m.steps {
		switch v.Kind {
		case api.VisitFile, api.VisitPre:
			blocks[v.Stat.Ino] = v.Stat.Blocks
		case api.VisitErr:
			if first == 0 {
				first = int(v.Errno)
			}
		}
	}
	all := 0
	for _, n := range blocks {
		all += n
	}
	return [3]int{len(blocks), all, first}
}

// scene is a walk of a test: over which process, with which plan, how.
type scene struct {
	p            *desc.Proc
	plan         []api.Choice
	flags, depth int
	from         []string
	skip         func(step int) bool
}

func (s scene) String() string {
	return fmt.Sprintf("%+v flags %d depth %d roots %q", s.plan, s.flags, s.depth, s.from)
}

// never: nothing is skipped.
func never(int) bool { return false }

// follows: the walk of a scene tells what the model tells, by as many calls,
// and nothing is left behind but descriptors whose Close failed.
func (s scene) follows(t *testing.T) []api.Visit {
	t.Helper()
	const most = 3000
	m := &model{gate: fault.New(twin(t, s.p), s.plan...), flags: s.flags, depth: s.depth, skip: s.skip, most: most}
	m.walk(s.from)
	q := twin(t, s.p)
	ahead := state(q)
	g := fault.New(q, s.plan...)
	w := walk.New(g, s.flags, s.depth, s.from...)
	var l []api.Visit
	for v, ok := w.Next(); ok; v, ok = w.Next() {
		if l = append(l, v); s.skip(len(l)) {
			w.Skip()
		}
		if len(l) == most {
			break
		}
	}
	if !slices.Equal(l, m.steps) {
		t.Fatalf("%v:\n%swant\n%s", s, brief(text(l)), brief(text(m.steps)))
	}
	same(t, s.String()+": calls", counts(t, "walk", g), counts(t, "model", m.gate))
	same(t, s.String()+": Given", g.Given(), m.gate.Given())
	open := 0
	for _, c := range g.Given() {
		if c.Call == "close" {
			open++
		}
	}
	same(t, s.String()+": Fds", len(g.Fds()), open)
	q.CloseAll()
	same(t, s.String()+": left behind", state(q), ahead)
	return l
}

// sums: Sum of a scene's first root tells what the model tells.
func (s scene) sums(t *testing.T) {
	t.Helper()
	m := &model{gate: fault.New(twin(t, s.p), s.plan...), flags: s.flags &^ post, depth: -1, skip: never, most: 20000}
	m.walk(s.from[:1])
	if len(m.steps) >= m.most {
		return
	}
	g := fault.New(twin(t, s.p), s.plan...)
	n, blocks, e := walk.Sum(g, s.flags, s.from[0])
	same(t, s.String()+": Sum", [3]int{n, blocks, int(e)}, m.sum())
	same(t, s.String()+": Sum's calls", counts(t, "Sum", g), counts(t, "model", m.gate))
}

// lawful: the errors that a call may fail by.
func lawful(call string) []api.Errno {
	var l []api.Errno
	for e := api.EPERM; e <= api.ELOOP; e++ {
		if fault.Legal(call, e) {
			l = append(l, e)
		}
	}
	return l
}

// wild: a tree drawn from r: directories, files, names, links of every kind,
// some of them with modes that keep others out.
func wild(t *testing.T, r *rand.Rand) *desc.Proc {
	t.Helper()
	p := grown(t)
	dirs, files, all := list(""), list(), list("/")
	for i := range 4 + r.Intn(12) {
		in := dirs[r.Intn(len(dirs))]
		path := fmt.Sprintf("%s/%c%d", in, 'a'+byte(r.Intn(5)), i)
		if len(path) > 200 {
			continue
		}
		switch k := r.Intn(10); {
		case k < 4 && len(dirs) < 7:
			grow(t, p, "d "+path)
			dirs = append(dirs, path)
		case k < 6:
			grow(t, p, fmt.Sprintf("f %s %d", path, r.Intn(3)*r.Intn(300)))
			files = append(files, path)
		case k == 6 && len(files) > 0:
			grow(t, p, fmt.Sprintf("h %s %s", path, files[r.Intn(len(files))]))
		default:
			to := list(".", "..", "../..", "no", "/no/no", path, all[r.Intn(len(all))], all[r.Intn(len(all))], all[r.Intn(len(all))]+"/", "../"+path[len(in)+1:])
			grow(t, p, fmt.Sprintf("l %s %s", path, to[r.Intn(len(to))]))
		}
		all = append(all, path)
	}
	for _, d := range dirs[1:] {
		if r.Intn(4) == 0 {
			good(t, "Chmod", p.Chmod(d, api.Mode([]int{0, 0o711, 0o744, 0o700, 0o755}[r.Intn(5)])))
		}
	}
	return p
}

// wildRoots: paths to walk from.
func wildRoots(p *desc.Proc, r *rand.Rand) []string {
	l := list("/")
	for v := range walk.All(fault.New(p), 0, -1, "/") {
		l = append(l, v.Path)
	}
	var from []string
	for range 1 + r.Intn(3) {
		from = append(from, list(l[r.Intn(len(l))], l[r.Intn(len(l))], "/", ".", "//", "no", l[r.Intn(len(l))]+"/")[r.Intn(7)])
	}
	return from
}

// Walks over trees of any kind, with any plan, skipped anywhere.
func TestModel(t *testing.T) {
	r := rand.New(rand.NewSource(14))
	seen := map[int]int{}
	for range 4000 {
		p := wild(t, r)
		if r.Intn(3) == 0 {
			p = as(t, p, 7)
		}
		s := scene{p: p, flags: r.Intn(16), depth: r.Intn(6) - 2, from: wildRoots(p, r), skip: never}
		if r.Intn(2) == 0 {
			for range 1 + r.Intn(4) {
				call := callNames[r.Intn(len(callNames))]
				can := lawful(call)
				s.plan = append(s.plan, fails(call, 1+r.Intn(12), can[r.Intn(len(can))]))
			}
		}
		s.sums(t)
		if seed := r.Intn(1000); r.Intn(2) == 0 {
			s.skip = func(step int) bool { return (step*step+seed)%5 == 0 }
		}
		for _, v := range s.follows(t) {
			seen[v.Kind]++
		}
	}
	for kind := api.VisitFile; kind <= api.VisitCycle; kind++ {
		if seen[kind] < 200 {
			t.Errorf("kind %d: only %d steps", kind, seen[kind])
		}
	}
}
