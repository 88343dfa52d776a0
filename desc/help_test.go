package desc_test

import (
	"bytes"
	"fmt"
	"slices"
	"strings"
	"testing"

	"tinsel/api"
	"tinsel/desc"
	"tinsel/tree"
)

// The calls, with the signatures that the chapter lists.
var (
	_ func(*tree.FS, api.Cred) (*desc.Proc, api.Errno)         = desc.New
	_ func(*desc.Proc) *tree.FS                                = (*desc.Proc).FS
	_ func(*desc.Proc) api.Cred                                = (*desc.Proc).Cred
	_ func(*desc.Proc) []int                                   = (*desc.Proc).Fds
	_ func(*desc.Proc, string, int, api.Mode) (int, api.Errno) = (*desc.Proc).Open
	_ func(*desc.Proc, []byte) (int, api.Errno)                = (*desc.Proc).Tape
	_ func(*desc.Proc, int) ([]byte, api.Errno)                = (*desc.Proc).Taped
	_ func(*desc.Proc) (int, int, api.Errno)                   = (*desc.Proc).Pipe
	_ func(*desc.Proc, int, int) ([]byte, api.Errno)           = (*desc.Proc).Read
	_ func(*desc.Proc, int, []byte) (int, api.Errno)           = (*desc.Proc).Write
	_ func(*desc.Proc, int, int, int) (int, api.Errno)         = (*desc.Proc).Seek
	_ func(*desc.Proc, int) api.Errno                          = (*desc.Proc).Close
	_ func(*desc.Proc)                                         = (*desc.Proc).CloseAll
	_ func(*desc.Proc, int) (int, api.Errno)                   = (*desc.Proc).Dup
	_ func(*desc.Proc, int, int) (int, api.Errno)              = (*desc.Proc).Dup2
	_ func(*desc.Proc, int) (api.Stat, api.Errno)              = (*desc.Proc).Fstat
	_ func(*desc.Proc, int, int) api.Errno                     = (*desc.Proc).Ftruncate
	_ func(*desc.Proc, int) (api.Entry, bool, api.Errno)       = (*desc.Proc).Readdir
	_ func(*desc.Proc, string) api.Errno                       = (*desc.Proc).Chdir
	_ func(*desc.Proc) (string, api.Errno)                     = (*desc.Proc).Getcwd
	_ func(*desc.Proc, api.Mode) api.Mode                      = (*desc.Proc).Umask
	_ func(*desc.Proc, string, api.Mode) api.Errno             = (*desc.Proc).Mkdir
	_ func(*desc.Proc, string) api.Errno                       = (*desc.Proc).Rmdir
	_ func(*desc.Proc, string, string) api.Errno               = (*desc.Proc).Link
	_ func(*desc.Proc, string) api.Errno                       = (*desc.Proc).Unlink
	_ func(*desc.Proc, string, string) api.Errno               = (*desc.Proc).Rename
	_ func(*desc.Proc, string, string) api.Errno               = (*desc.Proc).Symlink
	_ func(*desc.Proc, string) (string, api.Errno)             = (*desc.Proc).Readlink
	_ func(*desc.Proc, string, api.Mode) api.Errno             = (*desc.Proc).Chmod
	_ func(*desc.Proc, string, int, int, bool) api.Errno       = (*desc.Proc).Chown
	_ func(*desc.Proc, string, int64, int64, bool) api.Errno   = (*desc.Proc).Utime
	_ func(*desc.Proc, string, int) api.Errno                  = (*desc.Proc).Truncate
	_ func(*desc.Proc, string) (api.Stat, api.Errno)           = (*desc.Proc).Stat
	_ func(*desc.Proc, string) (api.Stat, api.Errno)           = (*desc.Proc).Lstat
	_ func(*desc.Proc, string, int) api.Errno                  = (*desc.Proc).Access
	_ func(*desc.Proc) (int, int, int, int)                    = (*desc.Proc).Statfs
)

// Flags, in short.
const (
	rd     = api.Read
	wr     = api.Write
	rw     = api.Read | api.Write
	create = api.Create
)

// noFd: what can't be an open descriptor in a process with few of them.
var noFd = []int{-1, 9, 15, 16, 17, 1 << 40, -1 << 63, 1<<63 - 1}

// Who a process is: root, and two others.
var (
	root = api.Cred{}
	ann  = api.Cred{Uid: 7, Gid: 70}
	bob  = api.Cred{Uid: 8, Gid: 80, Groups: []int{81, 82}}
)

// in: the same one, who stands in that directory.
func in(c api.Cred, cwd int) api.Cred {
	c.Cwd = cwd
	return c
}

// letters: a text of n bytes.
func letters(n int) string { return strings.Repeat("n", n) }

// count: n bytes that tell where they stand.
func count(n int) string {
	var b strings.Builder
	for i := range n {
		b.WriteByte(byte(i%251) + 1)
	}
	return b.String()
}

// brief: a text quoted, or how it begins and how long it is.
func brief(s string) string {
	if len(s) <= 300 {
		return fmt.Sprintf("%q", s)
	}
	return fmt.Sprintf("%q.. (%d bytes)", s[:300], len(s))
}

// same: are they told alike?
func same(t *testing.T, what string, got, want any) {
	t.Helper()
	if a, b := fmt.Sprint(got), fmt.Sprint(want); a != b {
		t.Errorf("%s: %s, want %s", what, brief(a), brief(b))
	}
}

func is(t *testing.T, what string, got, want api.Errno) {
	t.Helper()
	if got != want {
		t.Errorf("%s: %d (%v), want %d (%v)", what, int(got), got, int(want), want)
	}
}

// good: a call that all else in a test hangs on.
func good(t *testing.T, what string, e api.Errno) {
	t.Helper()
	if e != api.OK {
		t.Fatalf("%s: %d (%v)", what, int(e), e)
	}
}

// store: a new file system.
func store(t *testing.T, blocks, inodes int) *tree.FS {
	t.Helper()
	fs, e := tree.New(blocks, inodes)
	good(t, "tree.New", e)
	return fs
}

// proc: a new process on it.
func proc(t *testing.T, fs *tree.FS, c api.Cred) *desc.Proc {
	t.Helper()
	p, e := desc.New(fs, c)
	good(t, "New", e)
	if p == nil {
		t.Fatal("New: no process")
	}
	return p
}

// made: root's process on a file system of its own.
func made(t *testing.T) *desc.Proc {
	t.Helper()
	return proc(t, store(t, 600, 40), root)
}

// open: a descriptor of a path.
func open(t *testing.T, p *desc.Proc, path string, flags int) int {
	t.Helper()
	fd, e := p.Open(path, flags, 0o666)
	good(t, fmt.Sprintf("Open %s, %d", path, flags), e)
	return fd
}

// file: a new file with a content, open no more.
func file(t *testing.T, p *desc.Proc, path, content string) {
	t.Helper()
	fd := open(t, p, path, wr|create|api.Excl)
	put(t, p, fd, content)
	good(t, "Close", p.Close(fd))
}

// mkdir: new directories.
func mkdir(t *testing.T, p *desc.Proc, l ...string) {
	t.Helper()
	for _, path := range l {
		good(t, "Mkdir "+path, p.Mkdir(path, 0o755))
	}
}

// pipe: a new one's ends.
func pipe(t *testing.T, p *desc.Proc) (int, int) {
	t.Helper()
	r, w, e := p.Pipe()
	good(t, "Pipe", e)
	return r, w
}

// tape: a new one.
func tape(t *testing.T, p *desc.Proc, content string) int {
	t.Helper()
	fd, e := p.Tape([]byte(content))
	good(t, "Tape", e)
	return fd
}

// dup: one more.
func dup(t *testing.T, p *desc.Proc, fd int) int {
	t.Helper()
	n, e := p.Dup(fd)
	good(t, "Dup", e)
	return n
}

// put: all of a text is written.
func put(t *testing.T, p *desc.Proc, fd int, text string) {
	t.Helper()
	puts(t, p, fd, text, len(text))
}

// puts: so many bytes of it are.
func puts(t *testing.T, p *desc.Proc, fd int, text string, want int) {
	t.Helper()
	if n, e := p.Write(fd, []byte(text)); n != want || e != api.OK {
		t.Errorf("Write(%d, %d bytes): %d, %v, want %d", fd, len(text), n, e, want)
	}
}

// noPut: nothing is, and that is why.
func noPut(t *testing.T, p *desc.Proc, fd int, text string, want api.Errno) {
	t.Helper()
	if n, e := p.Write(fd, []byte(text)); n != 0 || e != want {
		t.Errorf("Write(%d, %d bytes): %d, %v, want %v", fd, len(text), n, e, want)
	}
}

// gets: what is read.
func gets(t *testing.T, p *desc.Proc, fd, n int, want string) {
	t.Helper()
	if b, e := p.Read(fd, n); string(b) != want || e != api.OK {
		t.Errorf("Read(%d, %d): %s, %v, want %s", fd, n, brief(string(b)), e, brief(want))
	}
}

// noGet: nothing is, and that is why.
func noGet(t *testing.T, p *desc.Proc, fd, n int, want api.Errno) {
	t.Helper()
	if b, e := p.Read(fd, n); len(b) != 0 || e != want {
		t.Errorf("Read(%d, %d): %s, %v, want %v", fd, n, brief(string(b)), e, want)
	}
}

// seeks: the new place.
func seeks(t *testing.T, p *desc.Proc, fd, off, whence, want int) {
	t.Helper()
	if at, e := p.Seek(fd, off, whence); at != want || e != api.OK {
		t.Errorf("Seek(%d, %d, %d): %d, %v, want %d", fd, off, whence, at, e, want)
	}
}

// noSeek: there is none.
func noSeek(t *testing.T, p *desc.Proc, fd, off, whence int, want api.Errno) {
	t.Helper()
	if at, e := p.Seek(fd, off, whence); at != 0 || e != want {
		t.Errorf("Seek(%d, %d, %d): %d, %v, want %v", fd, off, whence, at, e, want)
	}
}

// place: where a file's descriptor stands.
func place(t *testing.T, p *desc.Proc, fd, want int) {
	t.Helper()
	seeks(t, p, fd, 0, api.SeekCur, want)
}

// holds: what a file has in it, whoever has it open.
func holds(t *testing.T, p *desc.Proc, path, want string) {
	t.Helper()
	st, e := p.FS().Stat(root, path, true)
	good(t, "Stat "+path, e)
	b, e := p.FS().ReadAt(st.Ino, 0, api.MaxFile)
	if string(b) != want || e != api.OK {
		t.Errorf("%s: %s, %v, want %s", path, brief(string(b)), e, brief(want))
	}
}

// size: what Fstat says.
func size(t *testing.T, p *desc.Proc, fd, want int) {
	t.Helper()
	if st, e := p.Fstat(fd); st.Size != want || e != api.OK {
		t.Errorf("Fstat(%d): %+v, %v, want size %d", fd, st, e, want)
	}
}

// fds: which descriptors are open.
func fds(t *testing.T, p *desc.Proc, want ...int) {
	t.Helper()
	if got := p.Fds(); !slices.Equal(got, want) {
		t.Errorf("Fds: %v, want %v", got, want)
	}
}

// number: a call that answers a descriptor answers that one.
func number(t *testing.T, what string, fd int, e api.Errno, want int) {
	t.Helper()
	if fd != want || e != api.OK {
		t.Errorf("%s: %d, %v, want %d", what, fd, e, want)
	}
}

// none: a call that answers a number answers 0 and an error.
func none(t *testing.T, what string, n int, e, want api.Errno) {
	t.Helper()
	if n != 0 || e != want {
		t.Errorf("%s: %d, %v, want %v", what, n, e, want)
	}
}

// names: all that is left for Readdir to tell.
func names(t *testing.T, p *desc.Proc, fd int) string {
	t.Helper()
	var l []string
	for range 1000 {
		x, ok, e := p.Readdir(fd)
		if e != api.OK || !ok {
			if x != (api.Entry{}) || ok || e != api.OK {
				t.Errorf("Readdir(%d) at the end: %+v, %v, %v", fd, x, ok, e)
			}
			return strings.Join(l, " ")
		}
		l = append(l, x.Name)
	}
	t.Fatalf("Readdir(%d) has no end", fd)
	return ""
}

// next: the next name.
func next(t *testing.T, p *desc.Proc, fd int, want string) {
	t.Helper()
	if x, ok, e := p.Readdir(fd); x.Name != want || !ok || e != api.OK {
		t.Errorf("Readdir(%d): %+v, %v, %v, want %s", fd, x, ok, e, want)
	}
}

// inode: what a path leads to, a link itself.
func inode(t *testing.T, fs *tree.FS, path string) int {
	t.Helper()
	ino, e := fs.Resolve(root, path, false)
	good(t, "Resolve "+path, e)
	return ino
}

// uses: is an inode in use?
func uses(t *testing.T, what string, fs *tree.FS, ino int, want bool) {
	t.Helper()
	if got := slices.Contains(fs.Inodes(), ino); got != want {
		t.Errorf("%s: inode %d in use: %v, want %v", what, ino, got, want)
	}
}

// holdsOf: how often an inode is held, counted on a copy.
func holdsOf(fs *tree.FS, ino int) int {
	n, c := 0, fs.Copy()
	for c.Release(ino) == api.OK {
		n++
	}
	return n
}

// heldBy: an inode is held so often.
func heldBy(t *testing.T, what string, fs *tree.FS, ino, want int) {
	t.Helper()
	same(t, fmt.Sprint(what, ": holds of ", ino), holdsOf(fs, ino), want)
}

// blocksLeft: how many blocks are free.
func blocksLeft(fs *tree.FS) int {
	_, n, _, _ := fs.Statfs()
	return n
}

// leave: a file of root's takes all blocks but so many.
func leave(t *testing.T, fs *tree.FS, left int) {
	t.Helper()
	ino, e := fs.Open(root, "/filler", wr|create, 0o600)
	good(t, "Open", e)
	for k := 0; blocksLeft(fs) > left; k++ {
		if _, e := fs.WriteAt(ino, k*api.Block, []byte{1}); e != api.OK || k >= api.Direct {
			t.Fatalf("%d blocks are left, not %d: %v", blocksLeft(fs), left, e)
		}
	}
	good(t, "Release", fs.Release(ino))
}

// picture: all that is to be seen of a file system.
func picture(fs *tree.FS) string {
	var b bytes.Buffer
	all, left, inodes, spare := fs.Statfs()
	fmt.Fprintln(&b, fs.Now(), all, left, inodes, spare, fs.Inodes(), fs.Used())
	for _, ino := range fs.Inodes() {
		st, e := fs.Info(ino)
		owned, _ := fs.Owned(ino)
		entries, _ := fs.Entries(ino)
		bytes, _ := fs.ReadAt(ino, 0, api.MaxFile)
		fmt.Fprintf(&b, "%+v %v %v %v %q %d\n", st, e, owned, entries, bytes, holdsOf(fs, ino))
	}
	return b.String()
}

// state: all that is to be seen of a process without changing it.
func state(p *desc.Proc) string {
	var b bytes.Buffer
	cwd, e := p.Getcwd()
	fmt.Fprintln(&b, p.Cred(), cwd, e, p.Fds())
	for _, fd := range p.Fds() {
		st, e := p.Fstat(fd)
		on, e2 := p.Taped(fd)
		fmt.Fprintf(&b, "%d: %+v %v %q %v\n", fd, st, e, on, e2)
	}
	return b.String() + picture(p.FS())
}

// refused: a call answers this error, and changes nothing, not even a time.
func refused(t *testing.T, what string, p *desc.Proc, want api.Errno, call func() api.Errno) {
	t.Helper()
	was, now := state(p), p.FS().Now()
	p.FS().Clock(now + 1000)
	is(t, what, call(), want)
	p.FS().Clock(now)
	if got := state(p); got != was {
		t.Errorf("%s: something has changed: %s, was %s", what, brief(got), brief(was))
	}
}
