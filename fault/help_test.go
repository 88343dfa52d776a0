package fault_test

import (
	"bytes"
	"fmt"
	"slices"
	"strings"
	"testing"

	"tinsel/api"
	"tinsel/desc"
	"tinsel/fault"
	"tinsel/tree"
)

// The calls, with the signatures that the chapter lists.
var (
	_ func(*desc.Proc, ...api.Choice) *fault.Gate = fault.New
	_ func(*fault.Gate) *desc.Proc                = (*fault.Gate).Proc
	_ func(*fault.Gate) int                       = (*fault.Gate).Calls
	_ func(*fault.Gate, string) int               = (*fault.Gate).Count
	_ func(*fault.Gate) []api.Choice              = (*fault.Gate).Given
	_ func(string, api.Errno) bool                = fault.Legal
	_ caller                                      = (*fault.Gate)(nil)
	_ caller                                      = (*desc.Proc)(nil)
)

// caller is what a gate and a process have in common.
type caller interface {
	FS() *tree.FS
	Cred() api.Cred
	Fds() []int
	Open(path string, flags int, mode api.Mode) (int, api.Errno)
	Tape(b []byte) (int, api.Errno)
	Taped(fd int) ([]byte, api.Errno)
	Pipe() (int, int, api.Errno)
	Read(fd, n int) ([]byte, api.Errno)
	Write(fd int, b []byte) (int, api.Errno)
	Seek(fd, off, whence int) (int, api.Errno)
	Close(fd int) api.Errno
	CloseAll()
	Dup(fd int) (int, api.Errno)
	Dup2(fd, to int) (int, api.Errno)
	Fstat(fd int) (api.Stat, api.Errno)
	Ftruncate(fd, size int) api.Errno
	Readdir(fd int) (api.Entry, bool, api.Errno)
	Chdir(path string) api.Errno
	Getcwd() (string, api.Errno)
	Umask(m api.Mode) api.Mode
	Mkdir(path string, mode api.Mode) api.Errno
	Rmdir(path string) api.Errno
	Link(old, path string) api.Errno
	Unlink(path string) api.Errno
	Rename(old, path string) api.Errno
	Symlink(target, path string) api.Errno
	Readlink(path string) (string, api.Errno)
	Chmod(path string, mode api.Mode) api.Errno
	Chown(path string, uid, gid int, follow bool) api.Errno
	Utime(path string, atime, mtime int64, follow bool) api.Errno
	Truncate(path string, size int) api.Errno
	Stat(path string) (api.Stat, api.Errno)
	Lstat(path string) (api.Stat, api.Errno)
	Access(path string, how int) api.Errno
	Statfs() (int, int, int, int)
}

// Flags, in short.
const (
	rd     = api.Read
	wr     = api.Write
	rw     = api.Read | api.Write
	create = api.Create
)

var root = api.Cred{}

// fails: the choice that the nth call of a name fails so.
func fails(call string, nth int, e api.Errno) api.Choice {
	return api.Choice{Call: call, Nth: nth, Errno: e}
}

// short: the choice that the nth call of a name moves at most n bytes.
func short(call string, nth, n int) api.Choice {
	return api.Choice{Call: call, Nth: nth, Short: n}
}

// count: n bytes that tell where they stand.
func count(n int) string {
	var b strings.Builder
	for i := range n {
		b.WriteByte(byte(i%251) + 1)
	}
	return b.String()
}

// brief: a text quoted, or how it begins and how long it is.
func brief(s string) string {
	if len(s) <= 300 {
		return fmt.Sprintf("%q", s)
	}
	return fmt.Sprintf("%q.. (%d bytes)", s[:300], len(s))
}

// same: are they told alike?
func same(t *testing.T, what string, got, want any) {
	t.Helper()
	if a, b := fmt.Sprintf("%+v", got), fmt.Sprintf("%+v", want); a != b {
		t.Errorf("%s: %s, want %s", what, brief(a), brief(b))
	}
}

func is(t *testing.T, what string, got, want api.Errno) {
	t.Helper()
	if got != want {
		t.Errorf("%s: %d (%v), want %d (%v)", what, int(got), got, int(want), want)
	}
}

// good: a call that all else in a test hangs on.
func good(t *testing.T, what string, e api.Errno) {
	t.Helper()
	if e != api.OK {
		t.Fatalf("%s: %d (%v)", what, int(e), e)
	}
}

// proc: a new process on a file system.
func proc(t *testing.T, fs *tree.FS, c api.Cred) *desc.Proc {
	t.Helper()
	p, e := desc.New(fs, c)
	good(t, "desc.New", e)
	return p
}

// made: root's process on a new file system.
func made(t *testing.T) *desc.Proc {
	t.Helper()
	fs, e := tree.New(600, 40)
	good(t, "tree.New", e)
	fs.Clock(50)
	return proc(t, fs, root)
}

// The descriptors of a busy process.
const (
	file, dir, tape, source, sink, end, shut = 0, 1, 2, 3, 4, 5, 6
)

// busy: a process with names and with descriptors of all kinds, none of them
// at its beginning, and another directory than the root.
func busy(t *testing.T) *desc.Proc {
	t.Helper()
	p := made(t)
	for _, path := range []string{"/d", "/d/e", "/d/empty"} {
		good(t, "Mkdir "+path, p.Mkdir(path, 0o755))
	}
	good(t, "Chdir", p.Chdir("/d"))
	fd, e := p.Open("/f", rw|create, 0o666)
	good(t, "Open", e)
	put(t, p, fd, "0123456789")
	good(t, "Symlink", p.Symlink("/f", "/l"))
	_, e = p.Seek(fd, 2, api.SeekSet)
	good(t, "Seek", e)
	fd, e = p.Open("/", rd, 0)
	good(t, "Open", e)
	_, _, e = p.Readdir(fd)
	good(t, "Readdir", e)
	fd, e = p.Tape([]byte("on the tape"))
	good(t, "Tape", e)
	gets(t, p, fd, 3, "on ")
	_, w, e := p.Pipe()
	good(t, "Pipe", e)
	put(t, p, w, "in the pipe")
	fd, e = p.Open("/f", wr|api.Append, 0)
	good(t, "Open", e)
	same(t, "the last descriptor", fd, end)
	return p
}

// put: all of a text is written.
func put(t *testing.T, p caller, fd int, text string) {
	t.Helper()
	puts(t, p, fd, text, len(text))
}

// puts: so many bytes of it are.
func puts(t *testing.T, p caller, fd int, text string, want int) {
	t.Helper()
	if n, e := p.Write(fd, []byte(text)); n != want || e != api.OK {
		t.Errorf("Write(%d, %d bytes): %d, %v, want %d", fd, len(text), n, e, want)
	}
}

// noPut: nothing is, and that is why.
func noPut(t *testing.T, p caller, fd int, text string, want api.Errno) {
	t.Helper()
	if n, e := p.Write(fd, []byte(text)); n != 0 || e != want {
		t.Errorf("Write(%d, %d bytes): %d, %v, want %v", fd, len(text), n, e, want)
	}
}

// gets: what is read.
func gets(t *testing.T, p caller, fd, n int, want string) {
	t.Helper()
	if b, e := p.Read(fd, n); string(b) != want || e != api.OK {
		t.Errorf("Read(%d, %d): %s, %v, want %s", fd, n, brief(string(b)), e, brief(want))
	}
}

// noGet: nothing is, and that is why.
func noGet(t *testing.T, p caller, fd, n int, want api.Errno) {
	t.Helper()
	if b, e := p.Read(fd, n); len(b) != 0 || e != want {
		t.Errorf("Read(%d, %d): %s, %v, want %v", fd, n, brief(string(b)), e, want)
	}
}

// place: where a file's descriptor stands.
func place(t *testing.T, g *fault.Gate, fd, want int) {
	t.Helper()
	if at, e := g.Proc().Seek(fd, 0, api.SeekCur); at != want || e != api.OK {
		t.Errorf("the place of %d: %d, %v, want %d", fd, at, e, want)
	}
}

// holds: what a file has in it.
func holds(t *testing.T, g *fault.Gate, path, want string) {
	t.Helper()
	st, e := g.FS().Stat(root, path, true)
	good(t, "Stat "+path, e)
	b, e := g.FS().ReadAt(st.Ino, 0, api.MaxFile)
	if string(b) != want || e != api.OK {
		t.Errorf("%s: %s, %v, want %s", path, brief(string(b)), e, brief(want))
	}
}

// onTape: all that is on a tape.
func onTape(t *testing.T, p caller, fd int, want string) {
	t.Helper()
	if b, e := p.Taped(fd); string(b) != want || e != api.OK {
		t.Errorf("Taped(%d): %s, %v, want %s", fd, brief(string(b)), e, brief(want))
	}
}

// given: just these choices were given.
func given(t *testing.T, g *fault.Gate, want ...api.Choice) {
	t.Helper()
	if got := g.Given(); !slices.Equal(got, want) {
		t.Errorf("Given: %+v, want %+v", got, want)
	}
}

// counted: so many calls, and so many of each of these names.
func counted(t *testing.T, g *fault.Gate, all int, l map[string]int) {
	t.Helper()
	same(t, "Calls", g.Calls(), all)
	for call, want := range l {
		same(t, "Count of "+call, g.Count(call), want)
	}
}

// heldBy: how often an inode is held, counted on a copy.
func heldBy(fs *tree.FS, ino int) int {
	n, c := 0, fs.Copy()
	for c.Release(ino) == api.OK {
		n++
	}
	return n
}

// picture: all that is to be seen of a file system.
func picture(fs *tree.FS) string {
	var b bytes.Buffer
	all, left, inodes, spare := fs.Statfs()
	fmt.Fprintln(&b, fs.Now(), all, left, inodes, spare, fs.Inodes(), fs.Used())
	for _, ino := range fs.Inodes() {
		st, e := fs.Info(ino)
		owned, _ := fs.Owned(ino)
		entries, _ := fs.Entries(ino)
		bytes, _ := fs.ReadAt(ino, 0, api.MaxFile)
		fmt.Fprintf(&b, "%+v %v %v %v %q %d\n", st, e, owned, entries, bytes, heldBy(fs, ino))
	}
	return b.String()
}

// state: all that is to be seen of a process without changing it.
func state(p *desc.Proc) string {
	var b bytes.Buffer
	cwd, e := p.Getcwd()
	fmt.Fprintln(&b, p.Cred(), cwd, e, p.Fds())
	for _, fd := range p.Fds() {
		st, e := p.Fstat(fd)
		on, e2 := p.Taped(fd)
		fmt.Fprintf(&b, "%d: %+v %v %q %v\n", fd, st, e, on, e2)
	}
	return b.String() + picture(p.FS())
}

// used: what is left to see of a process by using it up: entries, places, and
// the bytes that are still to be read.
func used(p *desc.Proc) string {
	var b bytes.Buffer
	for _, fd := range p.Fds() {
		x, ok, e := p.Readdir(fd)
		fmt.Fprintln(&b, fd, x, ok, e)
		at, e := p.Seek(fd, 0, api.SeekCur)
		fmt.Fprintln(&b, at, e)
		text, e := p.Read(fd, 1<<20)
		fmt.Fprintf(&b, "%q %v\n", text, e)
	}
	return b.String()
}
