package fault_test

import (
	"fmt"
	"math"

	"tinsel/api"
)

// names: the calls that a gate counts.
var names = []string{
	"open", "pipe", "read", "write", "seek", "close", "dup", "dup2", "fstat", "ftruncate", "readdir", "chdir", "getcwd",
	"mkdir", "rmdir", "link", "unlink", "rename", "symlink", "readlink", "chmod", "chown", "utime", "truncate", "stat", "lstat", "access",
}

// uncounted: those that it does not.
var uncounted = []string{"closeall", "fds", "fs", "cred", "umask", "statfs", "tape", "taped"}

// step is a call with its arguments.
type step struct {
	call       string
	fd, n, at  int
	path, to   string
	bytes      string
	mode       api.Mode
	when, then int64
	follow     bool
}

func (s step) String() string {
	return fmt.Sprintf("%s fd %d n %d at %d path %s to %s, %d bytes, mode %o, %d %d %v", s.call, s.fd, s.n, s.at, brief(s.path), brief(s.to), len(s.bytes), int(s.mode), s.when, s.then, s.follow)
}

// told: a call's answers as a text.
func told(e api.Errno, l ...any) string { return fmt.Sprintf("%d %q", int(e), fmt.Sprint(l...)) }

// do: what a gate or a process answers.
func do(p caller, s step) string {
	switch s.call {
	case "open":
		n, e := p.Open(s.path, s.n, s.mode)
		return told(e, n)
	case "tape":
		n, e := p.Tape([]byte(s.bytes))
		return told(e, n)
	case "taped":
		b, e := p.Taped(s.fd)
		return told(e, string(b))
	case "pipe":
		r, w, e := p.Pipe()
		return told(e, r, w)
	case "read":
		b, e := p.Read(s.fd, s.n)
		return told(e, string(b))
	case "write":
		n, e := p.Write(s.fd, []byte(s.bytes))
		return told(e, n)
	case "seek":
		n, e := p.Seek(s.fd, s.n, s.at)
		return told(e, n)
	case "close":
		return told(p.Close(s.fd))
	case "closeall":
		p.CloseAll()
		return told(0)
	case "dup":
		n, e := p.Dup(s.fd)
		return told(e, n)
	case "dup2":
		n, e := p.Dup2(s.fd, s.at)
		return told(e, n)
	case "fstat":
		st, e := p.Fstat(s.fd)
		return told(e, st)
	case "ftruncate":
		return told(p.Ftruncate(s.fd, s.n))
	case "readdir":
		x, ok, e := p.Readdir(s.fd)
		return told(e, x, ok)
	case "fds":
		return told(0, p.Fds())
	case "fs":
		return told(0, picture(p.FS()))
	case "cred":
		return told(0, p.Cred())
	case "umask":
		return told(0, int(p.Umask(s.mode)))
	}
	return doNames(p, s)
}

// doNames: of the calls by names.
func doNames(p caller, s step) string {
	switch s.call {
	case "chdir":
		return told(p.Chdir(s.path))
	case "getcwd":
		cwd, e := p.Getcwd()
		return told(e, cwd)
	case "mkdir":
		return told(p.Mkdir(s.path, s.mode))
	case "rmdir":
		return told(p.Rmdir(s.path))
	case "link":
		return told(p.Link(s.path, s.to))
	case "unlink":
		return told(p.Unlink(s.path))
	case "rename":
		return told(p.Rename(s.path, s.to))
	case "symlink":
		return told(p.Symlink(s.to, s.path))
	case "readlink":
		l, e := p.Readlink(s.path)
		return told(e, l)
	case "chmod":
		return told(p.Chmod(s.path, s.mode))
	case "chown":
		return told(p.Chown(s.path, s.n, s.at, s.follow))
	case "utime":
		return told(p.Utime(s.path, s.when, s.then, s.follow))
	case "truncate":
		return told(p.Truncate(s.path, s.n))
	case "stat":
		st, e := p.Stat(s.path)
		return told(e, st)
	case "lstat":
		st, e := p.Lstat(s.path)
		return told(e, st)
	case "access":
		return told(p.Access(s.path, s.n))
	case "statfs":
		a, b, c, d := p.Statfs()
		return told(0, a, b, c, d)
	}
	panic("no such call: " + s.call)
}

// zeros: what a call answers beside an error.
func zeros(call string, e api.Errno) string {
	switch call {
	case "open", "seek", "dup", "dup2", "write", "tape":
		return told(e, 0)
	case "pipe":
		return told(e, 0, 0)
	case "read", "getcwd", "readlink", "taped":
		return told(e, "")
	case "fstat", "stat", "lstat":
		return told(e, api.Stat{})
	case "readdir":
		return told(e, api.Entry{}, false)
	}
	return told(e)
}

// works: of each call that is counted one that a busy process does, and that
// answers something, or changes something.
var works = map[string]step{
	"open":      {path: "new", n: wr | create, mode: 0o777},
	"pipe":      {},
	"read":      {fd: file, n: 4},
	"write":     {fd: end, bytes: "more"},
	"seek":      {fd: file, n: 5},
	"close":     {fd: file},
	"dup":       {fd: tape},
	"dup2":      {fd: tape, at: file},
	"fstat":     {fd: file},
	"ftruncate": {fd: file, n: 3},
	"readdir":   {fd: dir},
	"chdir":     {path: "e"},
	"getcwd":    {},
	"mkdir":     {path: "new", mode: 0o700},
	"rmdir":     {path: "empty"},
	"link":      {path: "/f", to: "name"},
	"unlink":    {path: "/f"},
	"rename":    {path: "/f", to: "name"},
	"symlink":   {path: "name", to: "/f"},
	"readlink":  {path: "/l"},
	"chmod":     {path: "/f", mode: 0o600},
	"chown":     {path: "/f", n: 3, at: 4, follow: true},
	"utime":     {path: "/f", when: 5, then: 6, follow: true},
	"truncate":  {path: "/f", n: 3},
	"stat":      {path: "/l"},
	"lstat":     {path: "/l"},
	"access":    {path: "/f", n: 4},
}

// working: such a call of that name.
func working(call string) step {
	s := works[call]
	s.call = call
	return s
}

// dice: numbers that are the same each time.
type dice uint64

func (d *dice) below(n int) int {
	*d = *d*6364136223846793005 + 1442695040888963407
	return int(uint64(*d) >> 33 % uint64(n))
}

func pick[T any](d *dice, l []T) T { return l[d.below(len(l))] }

var (
	paths   = []string{"/f", "/g", "/d", "/d/f", "e", "f", "new", "/l", "/", ".", "..", "/d/e", "empty", "", "no/no", "\x00", "../f", "/d/"}
	amounts = []int{0, 1, 2, 3, 5, 7, 10, 64, 100, 300, -1, -2, -7, 17792, 17793, math.MaxInt, math.MinInt}
	flags   = []int{1, 1, 2, 3, 3, 3, 11, 11, 11, 14, 15, 26, 34, 43, 65, 131, 0, 256 + 3, -1}
	modes   = []api.Mode{0o777, 0o755, 0o700, 0o644, 0, 0o7777, -1}
)

// step: any call, mostly with arguments that lead somewhere.
func (d *dice) step() step {
	s := step{fd: d.below(8), n: pick(d, amounts), at: d.below(9) - 1, path: pick(d, paths), to: pick(d, paths), bytes: count(pick(d, []int{0, 1, 2, 3, 5, 10, 64, 200, 300})), mode: pick(d, modes), when: int64(d.below(9)), then: int64(d.below(9)), follow: d.below(2) == 0}
	switch d.below(4) {
	case 0:
		s.call = pick(d, []string{"read", "write", "read", "write", "open", "readdir", "seek"})
	case 1:
		s.call = pick(d, uncounted[1:])
	default:
		s.call = pick(d, names)
	}
	switch s.call {
	case "open":
		s.n = pick(d, flags)
	case "seek":
		s.at = d.below(4)
	case "access":
		s.n = d.below(10) - 1
	case "chown":
		s.n, s.at = d.below(12)-2, d.below(12)-2
	}
	if d.below(200) == 0 {
		s.call = "closeall"
	}
	return s
}
