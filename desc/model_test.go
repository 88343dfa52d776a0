package desc_test

import (
	"fmt"
	"math"
	"math/big"
	"slices"
	"testing"

	"tinsel/api"
	"tinsel/desc"
	"tinsel/tree"
)

// The model: a process by the chapter's words, over a file system of its own.
// Nothing is counted: whether a descriptor leads somewhere is looked up among
// all of them, each time that it is asked.

type model struct {
	fs    *tree.FS
	who   api.Cred
	leads map[int]*thing
}

// thing is a description: a file, a tape, or a pipe's end.
type thing struct {
	kind       string // file, tape, source, sink
	ino, flags int
	place      *big.Int
	entries    []api.Entry
	told       int // -1: to be asked for
	text       *string
	read       int
	other      *thing
}

func newModel(fs *tree.FS, c api.Cred) *model {
	if c.Cwd == 0 {
		c.Cwd = 1
	}
	fs.Hold(c.Cwd)
	return &model{fs, c, map[int]*thing{}}
}

func (m *model) leadsTo(x *thing) bool {
	for _, y := range m.leads {
		if x == y {
			return true
		}
	}
	return false
}

func (m *model) fds() (l []int) {
	for fd := range 16 {
		if m.leads[fd] != nil {
			l = append(l, fd)
		}
	}
	return l
}

func (m *model) lead(x *thing) int {
	fd := 0
	for m.leads[fd] != nil {
		fd++
	}
	m.leads[fd] = x
	return fd
}

func (m *model) drop(fd int) {
	x := m.leads[fd]
	delete(m.leads, fd)
	if x.kind == "file" && !m.leadsTo(x) {
		m.fs.Release(x.ino)
	}
}

// step is a call with its arguments.
type step struct {
	call       string
	fd, n, at  int
	path, to   string
	bytes      string
	mode       api.Mode
	when, then int64
	follow     bool
}

func (s step) String() string {
	return fmt.Sprintf("%s fd %d n %d at %d path %s to %s, %d bytes, mode %o, %d %d %v", s.call, s.fd, s.n, s.at, brief(s.path), brief(s.to), len(s.bytes), int(s.mode), s.when, s.then, s.follow)
}

func (m *model) open(s step) (int, api.Errno) {
	if s.n&3 == 0 || s.n < 0 || s.n > 255 {
		return 0, api.EINVAL
	}
	if len(m.leads) == 16 {
		return 0, api.EMFILE
	}
	ino, e := m.fs.Open(m.who, s.path, s.n, s.mode)
	if e != api.OK {
		return 0, e
	}
	return m.lead(&thing{kind: "file", ino: ino, flags: s.n, place: new(big.Int), told: -1}), api.OK
}

func (m *model) pipe() (int, int, api.Errno) {
	if len(m.leads) > 14 {
		return 0, 0, api.EMFILE
	}
	held := ""
	r, w := &thing{kind: "source", text: &held}, &thing{kind: "sink", text: &held}
	r.other, w.other = w, r
	return m.lead(r), m.lead(w), api.OK
}

func (m *model) read(x *thing, n int) (string, api.Errno) {
	switch {
	case x.kind == "sink", x.kind == "file" && x.flags&1 == 0:
		return "", api.EBADF
	case x.kind == "file":
		st, _ := m.fs.Info(x.ino)
		if st.Mode&api.TypeMask == api.TypeDir {
			return "", api.EISDIR
		}
		if n < 0 {
			return "", api.EINVAL
		}
		all, _ := m.fs.ReadAt(x.ino, 0, 1<<20)
		if x.place.Cmp(big.NewInt(int64(len(all)))) >= 0 {
			return "", api.OK
		}
		at := int(x.place.Int64())
		n = min(n, len(all)-at)
		x.place.Add(x.place, big.NewInt(int64(n)))
		return string(all[at : at+n]), api.OK
	case n < 0:
		return "", api.EINVAL
	case x.kind == "tape":
		rest := (*x.text)[x.read:]
		rest = rest[:min(n, len(rest))]
		x.read += len(rest)
		return rest, api.OK
	case *x.text == "" && m.leadsTo(x.other) && n > 0:
		return "", api.EAGAIN
	}
	n = min(n, len(*x.text))
	got := (*x.text)[:n]
	*x.text = (*x.text)[n:]
	return got, api.OK
}

func (m *model) write(x *thing, b string) (int, api.Errno) {
	switch {
	case x.kind == "source", x.kind == "file" && x.flags&2 == 0:
		return 0, api.EBADF
	case x.kind == "file":
		at := new(big.Int).Set(x.place)
		if x.flags&4 != 0 {
			st, _ := m.fs.Info(x.ino)
			at.SetInt64(int64(st.Size))
		}
		n, e := m.fs.WriteAt(x.ino, int(at.Int64()), []byte(b))
		if e == api.OK {
			x.place = at.Add(at, big.NewInt(int64(n)))
		}
		return n, e
	case x.kind == "tape":
		*x.text += b
		return len(b), api.OK
	case !m.leadsTo(x.other):
		return 0, api.EPIPE
	case len(*x.text) == 256 && b != "":
		return 0, api.EAGAIN
	}
	b = b[:min(len(b), 256-len(*x.text))]
	*x.text += b
	return len(b), api.OK
}

func (m *model) seek(x *thing, off, whence int) (int, api.Errno) {
	if x.kind != "file" {
		return 0, api.ESPIPE
	}
	at := big.NewInt(int64(off))
	st, _ := m.fs.Info(x.ino)
	switch whence {
	case 0:
	case 1:
		at.Add(at, x.place)
	case 2:
		at.Add(at, big.NewInt(int64(st.Size)))
	default:
		return 0, api.EINVAL
	}
	if at.Sign() < 0 || at.Cmp(new(big.Int).Lsh(big.NewInt(1), 62)) > 0 {
		return 0, api.EINVAL
	}
	x.place, x.told = at, -1
	return int(at.Int64()), api.OK
}

func (m *model) readdir(x *thing) (api.Entry, bool, api.Errno) {
	if x.kind != "file" {
		return api.Entry{}, false, api.ENOTDIR
	}
	if x.told < 0 {
		l, e := m.fs.Entries(x.ino)
		if e != api.OK {
			return api.Entry{}, false, e
		}
		x.entries, x.told = l, 0
	}
	if x.told == len(x.entries) {
		return api.Entry{}, false, api.OK
	}
	x.told++
	return x.entries[x.told-1], true, api.OK
}

func (m *model) fstat(x *thing) (api.Stat, api.Errno) {
	if x.kind == "file" {
		return m.fs.Info(x.ino)
	}
	return api.Stat{Mode: 0o010000, Size: len(*x.text)}, api.OK
}

func (m *model) ftruncate(x *thing, size int) api.Errno {
	if x.kind != "file" || x.flags&2 == 0 || size < 0 {
		return api.EINVAL
	}
	return m.fs.Resize(x.ino, size)
}

func (m *model) chdir(path string) api.Errno {
	ino, e := m.fs.Dir(m.who, path)
	if e == api.OK {
		m.fs.Release(m.who.Cwd)
		m.who.Cwd = ino
	}
	return e
}

// byFd: the answers of the calls that need a descriptor.
func (m *model) byFd(s step) string {
	x := m.leads[s.fd]
	bad := x == nil
	is := func(e api.Errno, l ...any) string {
		if bad {
			e = api.EBADF
		}
		return told(e, l...)
	}
	switch s.call {
	case "taped":
		if bad || x.kind != "tape" {
			return is(api.EINVAL, "")
		}
		return told(0, *x.text)
	case "read":
		if bad {
			return is(0, "")
		}
		b, e := m.read(x, s.n)
		return told(e, b)
	case "write":
		if bad {
			return is(0, 0)
		}
		n, e := m.write(x, s.bytes)
		return told(e, n)
	case "seek":
		if bad {
			return is(0, 0)
		}
		n, e := m.seek(x, s.n, s.at)
		return told(e, n)
	case "close":
		if !bad {
			m.drop(s.fd)
		}
		return is(0)
	case "dup":
		if bad || len(m.leads) == 16 {
			return is(api.EMFILE, 0)
		}
		return told(0, m.lead(x))
	case "dup2":
		if bad || s.at < 0 || s.at > 15 {
			return told(api.EBADF, 0)
		}
		if s.at != s.fd {
			if m.leads[s.at] != nil {
				m.drop(s.at)
			}
			m.leads[s.at] = x
		}
		return told(0, s.at)
	case "fstat":
		if bad {
			return is(0, api.Stat{})
		}
		st, e := m.fstat(x)
		return told(e, st)
	case "ftruncate":
		if bad {
			return is(0)
		}
		return told(m.ftruncate(x, s.n))
	}
	if bad {
		return is(0, api.Entry{}, false)
	}
	en, ok, e := m.readdir(x)
	return told(e, en, ok)
}

// told: a call's answers as a text.
func told(e api.Errno, l ...any) string { return fmt.Sprintf("%d %q", int(e), fmt.Sprint(l...)) }

// do: what the model answers.
func (m *model) do(s step) string {
	f, c := m.fs, m.who
	switch s.call {
	case "open":
		n, e := m.open(s)
		return told(e, n)
	case "tape":
		if len(m.leads) == 16 {
			return told(api.EMFILE, 0)
		}
		text := s.bytes
		return told(0, m.lead(&thing{kind: "tape", text: &text}))
	case "pipe":
		r, w, e := m.pipe()
		return told(e, r, w)
	case "closeall":
		for _, fd := range m.fds() {
			m.drop(fd)
		}
		return told(0)
	case "chdir":
		return told(m.chdir(s.path))
	case "getcwd":
		p, e := f.Path(c.Cwd)
		return told(e, p)
	case "umask":
		m.who.Umask = int(s.mode) & 0o777
		return told(0, c.Umask)
	case "mkdir":
		return told(f.Mkdir(c, s.path, s.mode))
	case "rmdir":
		return told(f.Rmdir(c, s.path))
	case "link":
		return told(f.Link(c, s.path, s.to))
	case "unlink":
		return told(f.Unlink(c, s.path))
	case "rename":
		return told(f.Rename(c, s.path, s.to))
	case "symlink":
		return told(f.Symlink(c, s.to, s.path))
	case "readlink":
		l, e := f.Readlink(c, s.path)
		return told(e, l)
	case "chmod":
		return told(f.Chmod(c, s.path, s.mode))
	case "chown":
		return told(f.Chown(c, s.path, s.n, s.at, s.follow))
	case "utime":
		return told(f.Utime(c, s.path, s.when, s.then, s.follow))
	case "truncate":
		return told(f.Truncate(c, s.path, s.n))
	case "stat":
		st, e := f.Stat(c, s.path, true)
		return told(e, st)
	case "lstat":
		st, e := f.Stat(c, s.path, false)
		return told(e, st)
	case "access":
		return told(f.Access(c, s.path, s.n))
	case "statfs":
		a, b, c, d := f.Statfs()
		return told(0, a, b, c, d)
	}
	return m.byFd(s)
}

// do: what the process answers.
func do(p *desc.Proc, s step) string {
	switch s.call {
	case "open":
		n, e := p.Open(s.path, s.n, s.mode)
		return told(e, n)
	case "tape":
		n, e := p.Tape([]byte(s.bytes))
		return told(e, n)
	case "taped":
		b, e := p.Taped(s.fd)
		return told(e, string(b))
	case "pipe":
		r, w, e := p.Pipe()
		return told(e, r, w)
	case "read":
		b, e := p.Read(s.fd, s.n)
		return told(e, string(b))
	case "write":
		n, e := p.Write(s.fd, []byte(s.bytes))
		return told(e, n)
	case "seek":
		n, e := p.Seek(s.fd, s.n, s.at)
		return told(e, n)
	case "close":
		return told(p.Close(s.fd))
	case "closeall":
		p.CloseAll()
		return told(0)
	case "dup":
		n, e := p.Dup(s.fd)
		return told(e, n)
	case "dup2":
		n, e := p.Dup2(s.fd, s.at)
		return told(e, n)
	case "fstat":
		st, e := p.Fstat(s.fd)
		return told(e, st)
	case "ftruncate":
		return told(p.Ftruncate(s.fd, s.n))
	case "readdir":
		x, ok, e := p.Readdir(s.fd)
		return told(e, x, ok)
	case "chdir":
		return told(p.Chdir(s.path))
	case "getcwd":
		cwd, e := p.Getcwd()
		return told(e, cwd)
	case "umask":
		return told(0, int(p.Umask(s.mode)))
	}
	return doNames(p, s)
}

// doNames: of the calls that are tree's.
func doNames(p *desc.Proc, s step) string {
	switch s.call {
	case "mkdir":
		return told(p.Mkdir(s.path, s.mode))
	case "rmdir":
		return told(p.Rmdir(s.path))
	case "link":
		return told(p.Link(s.path, s.to))
	case "unlink":
		return told(p.Unlink(s.path))
	case "rename":
		return told(p.Rename(s.path, s.to))
	case "symlink":
		return told(p.Symlink(s.to, s.path))
	case "readlink":
		l, e := p.Readlink(s.path)
		return told(e, l)
	case "chmod":
		return told(p.Chmod(s.path, s.mode))
	case "chown":
		return told(p.Chown(s.path, s.n, s.at, s.follow))
	case "utime":
		return told(p.Utime(s.path, s.when, s.then, s.follow))
	case "truncate":
		return told(p.Truncate(s.path, s.n))
	case "stat":
		st, e := p.Stat(s.path)
		return told(e, st)
	case "lstat":
		st, e := p.Lstat(s.path)
		return told(e, st)
	case "access":
		return told(p.Access(s.path, s.n))
	}
	a, b, c, d := p.Statfs()
	return told(0, a, b, c, d)
}

// dice: numbers that are the same each time.
type dice uint64

func (d *dice) below(n int) int {
	*d = *d*6364136223846793005 + 1442695040888963407
	return int(uint64(*d) >> 33 % uint64(n))
}

func pick[T any](d *dice, l []T) T { return l[d.below(len(l))] }

var (
	// byFd: calls that need a descriptor.
	callsByFd = []string{"taped", "read", "read", "read", "write", "write", "write", "seek", "seek", "close", "dup", "dup2", "fstat", "ftruncate", "readdir", "readdir", "readdir"}
	// rest: those that need none.
	callsByName = []string{
		"open", "open", "open", "open", "open", "tape", "pipe", "pipe", "chdir", "chdir", "getcwd", "umask", "mkdir", "mkdir", "rmdir", "link", "unlink", "unlink", "rename", "rename",
		"symlink", "readlink", "chmod", "chown", "utime", "truncate", "stat", "lstat", "access", "statfs",
	}
	paths     = []string{"a", "b", "c", "a/b", "a/c", "b/a", "/a", "/b", "/a/b", "/c", ".", "..", "/", "../a", "./b", "a/", "", "no/no", "/a/b/c", "a/..", letters(28), "\x00"}
	amounts   = []int{0, 1, 2, 3, 5, 10, 60, 64, 65, 128, 200, 255, 256, 257, 300, 400, 1500, -1, -2, -7, -64, -300, 17791, 17792, 17793, math.MaxInt, math.MinInt, 1 << 62, 1<<62 - 1, 1<<62 + 1, -1 << 62}
	openFlags = []int{1, 2, 3, 3, 3, 10, 11, 11, 11, 11, 14, 15, 26, 27, 34, 42, 43, 46, 65, 129, 131, 65 + 128, 0, 8, 33, 5, 73, 256 + 3, -1, 255}
	modes     = []api.Mode{0o777, 0o755, 0o700, 0o644, 0o666, 0o600, 0, 0o7777, 0o2775, 0o1777, -1, math.MaxInt, math.MinInt}
)

// fileStep: calls on the bytes and the entries of a few files and
// directories, of which any step would seldom open one.
func (d *dice) fileStep() step {
	s := step{fd: d.below(5), n: pick(d, []int{0, 1, 2, 7, 30, 64, 100, 130, 300, -1, -40}), at: d.below(5), bytes: count(pick(d, []int{0, 1, 9, 60, 64, 70, 130, 300})), mode: 0o777}
	s.call = pick(d, []string{"read", "read", "write", "write", "write", "seek", "seek", "ftruncate", "readdir", "readdir", "readdir", "open", "open", "open", "close", "dup", "dup2", "mkdir", "rmdir", "unlink", "rename", "chdir", "getcwd"})
	s.path, s.to = pick(d, []string{"/f", "/g", "/d", "/d/f", "/d/e", "/"}), pick(d, []string{"/f", "/d/f", "/h", "/d"})
	switch s.call {
	case "open":
		s.n = pick(d, []int{1, 3, 3, 11, 11, 11, 15, 14, 43, 65, 65})
	case "seek":
		s.at = d.below(3)
	}
	return s
}

// step: any call, mostly with arguments that lead somewhere.
func (d *dice) step() step {
	s := step{fd: d.below(7), n: pick(d, amounts), at: d.below(9) - 1, path: pick(d, paths), to: pick(d, paths), bytes: count(pick(d, []int{0, 1, 3, 3, 10, 64, 100, 200, 300})), mode: pick(d, modes), when: int64(d.below(9)), then: int64(d.below(9)), follow: d.below(2) == 0}
	if d.below(2) == 0 {
		s.call = pick(d, callsByFd)
	} else {
		s.call = pick(d, callsByName)
	}
	if d.below(12) == 0 {
		s.fd = pick(d, []int{-1, 7, 8, 9, 14, 15, 16, 17, math.MaxInt, math.MinInt})
	}
	switch s.call {
	case "open":
		s.n = pick(d, openFlags)
	case "seek":
		s.at = d.below(3)
		if d.below(8) == 0 {
			s.at = pick(d, []int{-1, 3, math.MaxInt, math.MinInt})
		}
	case "dup2":
		if d.below(6) == 0 {
			s.at = pick(d, []int{-1, 7, 11, 15, 16, math.MaxInt, math.MinInt})
		}
	case "access":
		s.n = d.below(10) - 1
	case "chown":
		s.n, s.at = d.below(12)-2, d.below(12)-2
	}
	if d.below(150) == 0 {
		s.call = "closeall"
	}
	return s
}

// pair: a process and its model.
type pair struct {
	p *desc.Proc
	m *model
}

func (x pair) compare(t *testing.T, what string, s step) bool {
	t.Helper()
	got, want := do(x.p, s), x.m.do(s)
	if got != want {
		t.Errorf("%s: %v: %s, want %s", what, s, brief(got), brief(want))
	}
	a := fmt.Sprint(x.p.Fds(), x.p.Cred())
	b := fmt.Sprint(x.m.fds(), x.m.who)
	if a != b {
		t.Errorf("%s: %v: behind it %s, want %s", what, s, a, b)
	}
	return got == want && a == b
}

// G2: of any sequence of calls, by two processes on one file system, each
// answer and the tree are those of the model.
func TestModel(t *testing.T) {
	for seed := range 60 {
		d := dice(seed)
		blocks, inodes := 8+d.below(24), 6+d.below(10)
		fs, twin := store(t, blocks, inodes), store(t, blocks, inodes)
		good(t, "Chmod", fs.Chmod(root, "/", 0o777))
		good(t, "Chmod", twin.Chmod(root, "/", 0o777))
		c := api.Cred{Uid: 7, Gid: 70, Groups: []int{0, 5}, Umask: 0o022}
		all := []pair{{proc(t, fs, root), newModel(twin, root)}, {proc(t, fs, c), newModel(twin, c)}}
		for n := range 500 {
			fs.Clock(int64(n))
			twin.Clock(int64(n))
			s := d.step()
			if seed%2 == 0 {
				s = d.fileStep()
			}
			what := fmt.Sprintf("seed %d, step %d", seed, n)
			if !pick(&d, all).compare(t, what, s) {
				return
			}
			if n%10 == 0 || n > 480 {
				if a, b := picture(fs), picture(twin); a != b {
					t.Errorf("%s: %v: the tree is %s, want %s", what, s, brief(a), brief(b))
					return
				}
			}
		}
		endOfModel(t, fs, twin, all)
	}
}

// endOfModel: P7.9: behind CloseAll nothing is held but where they stand.
func endOfModel(t *testing.T, fs, twin *tree.FS, all []pair) {
	t.Helper()
	for _, x := range all {
		x.compare(t, "at the end", step{call: "closeall"})
	}
	same(t, "at the end", picture(fs), picture(twin))
	at := []int{all[0].p.Cred().Cwd, all[1].p.Cred().Cwd}
	for _, ino := range fs.Inodes() {
		want := 0
		for _, d := range at {
			if d == ino {
				want++
			}
		}
		heldBy(t, "at the end", fs, ino, want)
		st, _ := fs.Info(ino)
		if st.Links == 0 && !slices.Contains(at, ino) {
			t.Errorf("inode %d has no name, and is not let go", ino)
		}
	}
}

// Nine calls on a pipe and what shares its ends, in each order of five.
func TestModelOfPipes(t *testing.T) {
	calls := []step{
		{call: "write", fd: 1, bytes: count(200)}, {call: "read", fd: 0, n: 150}, {call: "close", fd: 0}, {call: "close", fd: 1},
		{call: "dup2", fd: 1, at: 2}, {call: "dup2", fd: 0, at: 2}, {call: "dup", fd: 0}, {call: "write", fd: 2, bytes: "xy"}, {call: "read", fd: 2, n: 9},
	}
	fs, twin := store(t, 4, 2), store(t, 4, 2)
	order := make([]int, 5)
	for {
		x := pair{proc(t, fs, root), newModel(twin, root)}
		x.compare(t, "first", step{call: "pipe"})
		for _, k := range order {
			if !x.compare(t, fmt.Sprint("order ", order), calls[k]) {
				return
			}
		}
		for fd := range 4 {
			x.compare(t, fmt.Sprint("order ", order), step{call: "fstat", fd: fd})
			x.compare(t, fmt.Sprint("order ", order), step{call: "read", fd: fd, n: 500})
			x.compare(t, fmt.Sprint("order ", order), step{call: "write", fd: fd, bytes: "z"})
		}
		k := 0
		for ; k < len(order) && order[k] == len(calls)-1; k++ {
			order[k] = 0
		}
		if k == len(order) {
			return
		}
		order[k]++
	}
}
