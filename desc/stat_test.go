package desc_test

import (
	"fmt"
	"math"
	"testing"

	"tinsel/api"
	"tinsel/desc"
)

// stats: what Fstat tells.
func stats(t *testing.T, p *desc.Proc, fd int, want api.Stat) {
	t.Helper()
	if st, e := p.Fstat(fd); st != want || e != api.OK {
		t.Errorf("Fstat(%d): %+v, %v, want %+v", fd, st, e, want)
	}
}

// P7.7: Fstat.

func TestFstat(t *testing.T) {
	p := proc(t, store(t, 64, 16), api.Cred{Gid: 5, Umask: 0o022})
	p.FS().Clock(7)
	fd := open(t, p, "/f", wr|create)
	stats(t, p, fd, api.Stat{Ino: 2, Links: 1, Gid: 5, Mode: api.TypeReg | 0o644, Atime: 7, Mtime: 7, Ctime: 7})
	p.FS().Clock(8)
	put(t, p, fd, count(500))
	good(t, "Chown", p.Chown("/f", 3, 4, true))
	good(t, "Link", p.Link("/f", "/g"))
	stats(t, p, fd, api.Stat{Ino: 2, Links: 2, Uid: 3, Gid: 4, Size: 500, Blocks: 9, Mode: api.TypeReg | 0o644, Atime: 7, Mtime: 8, Ctime: 8})
	p.FS().Clock(9)
	good(t, "Unlink", p.Unlink("/f"))
	good(t, "Unlink", p.Unlink("/g"))
	stats(t, p, fd, api.Stat{Ino: 2, Uid: 3, Gid: 4, Size: 500, Blocks: 9, Mode: api.TypeReg | 0o644, Atime: 7, Mtime: 8, Ctime: 9})

	d := open(t, p, "/", rd)
	want, e := p.FS().Info(1)
	good(t, "Info", e)
	stats(t, p, d, want)
}

func TestFstatOfStreams(t *testing.T) {
	p := made(t)
	p.FS().Clock(7)
	r, w := pipe(t, p)
	fd := tape(t, p, "abc")
	piped := func(n int) {
		t.Helper()
		for _, fd := range []int{r, w} {
			if _, e := p.Dup(fd); e == api.OK {
				stats(t, p, fd, api.Stat{Mode: api.TypePipe, Size: n})
			}
		}
	}
	piped(0)
	puts(t, p, w, count(300), 256)
	piped(256)
	gets(t, p, r, 200, count(200))
	piped(56)
	stats(t, p, fd, api.Stat{Mode: api.TypePipe, Size: 3})
	gets(t, p, fd, 2, "ab")
	stats(t, p, fd, api.Stat{Mode: api.TypePipe, Size: 3}) // those that were read are there still
	put(t, p, fd, "de")
	stats(t, p, fd, api.Stat{Mode: api.TypePipe, Size: 5})
	good(t, "Close", p.Close(r))
	stats(t, p, w, api.Stat{Mode: api.TypePipe, Size: 56})
	for _, fd := range []int{-1, 16, 15} {
		st, e := p.Fstat(fd)
		same(t, "Fstat", fmt.Sprint(st, e), fmt.Sprint(api.Stat{}, api.EBADF))
	}
}

// P7.7: Ftruncate.

func TestFtruncate(t *testing.T) {
	p := made(t)
	file(t, p, "/f", "abcdef")
	fd := open(t, p, "/f", rw)
	p.FS().Clock(5)
	gets(t, p, fd, 4, "abcd")
	is(t, "Ftruncate", p.Ftruncate(fd, 3), api.OK)
	holds(t, p, "/f", "abc")
	place(t, p, fd, 4) // it stays
	gets(t, p, fd, 9, "")
	is(t, "Ftruncate", p.Ftruncate(fd, 5), api.OK)
	holds(t, p, "/f", "abc\x00\x00")
	gets(t, p, fd, 9, "\x00")
	is(t, "Ftruncate", p.Ftruncate(fd, 5), api.OK)
	is(t, "Ftruncate", p.Ftruncate(fd, 0), api.OK)
	holds(t, p, "/f", "")
	is(t, "Ftruncate", p.Ftruncate(fd, api.MaxFile), api.OK)
	size(t, p, fd, api.MaxFile)
	st, e := p.Fstat(fd)
	same(t, "a hole", fmt.Sprint(st.Blocks, st.Mtime, e), fmt.Sprint(0, 5, api.OK))
	w := open(t, p, "/f", wr|api.Append)
	is(t, "Ftruncate", p.Ftruncate(w, 1), api.OK)
	size(t, p, fd, 1)
	good(t, "Chmod", p.Chmod("/f", 0))
	good(t, "Unlink", p.Unlink("/f"))
	is(t, "Ftruncate", p.Ftruncate(w, 2), api.OK) // neither its name nor its mode is asked
	size(t, p, fd, 2)
}

func TestFtruncateRefuses(t *testing.T) {
	p := made(t)
	file(t, p, "/f", "text")
	w, r := open(t, p, "/f", wr), open(t, p, "/f", rd)
	d := open(t, p, "/", rd)
	pr, pw := pipe(t, p)
	tp := tape(t, p, "text")
	put(t, p, pw, "text")
	for _, v := range []struct {
		fd, size int
		want     api.Errno
	}{
		{w, -1, api.EINVAL}, {w, math.MinInt, api.EINVAL}, {w, api.MaxFile + 1, api.EFBIG}, {w, math.MaxInt, api.EFBIG},
		{r, 0, api.EINVAL}, {r, 4, api.EINVAL}, {r, -1, api.EINVAL}, {r, math.MaxInt, api.EINVAL},
		{d, 0, api.EINVAL}, {d, -1, api.EINVAL}, {d, math.MaxInt, api.EINVAL},
		{pr, 0, api.EINVAL}, {pw, 0, api.EINVAL}, {pw, -1, api.EINVAL}, {pw, math.MaxInt, api.EINVAL},
		{tp, 0, api.EINVAL}, {tp, 4, api.EINVAL}, {tp, -1, api.EINVAL}, {tp, math.MaxInt, api.EINVAL},
		{-1, 0, api.EBADF}, {16, 0, api.EBADF}, {9, -1, api.EBADF}, {9, math.MaxInt, api.EBADF}, {math.MinInt, 0, api.EBADF},
	} {
		refused(t, fmt.Sprintf("Ftruncate(%d, %d)", v.fd, v.size), p, v.want, func() api.Errno { return p.Ftruncate(v.fd, v.size) })
	}
	gets(t, p, pr, 9, "text")
}

// P7.7: Readdir.

func TestReaddir(t *testing.T) {
	p := made(t)
	mkdir(t, p, "/d", "/d/sub")
	file(t, p, "/d/f", "x")
	good(t, "Symlink", p.Symlink("f", "/d/l"))
	fd := open(t, p, "/d", rd)
	for _, want := range []api.Entry{
		{Name: ".", Ino: 2, Kind: api.TypeDir}, {Name: "..", Ino: 1, Kind: api.TypeDir}, {Name: "sub", Ino: 3, Kind: api.TypeDir},
		{Name: "f", Ino: 4, Kind: api.TypeReg}, {Name: "l", Ino: 5, Kind: api.TypeLink},
	} {
		x, ok, e := p.Readdir(fd)
		if x != want || !ok || e != api.OK {
			t.Errorf("Readdir: %+v, %v, %v, want %+v", x, ok, e, want)
		}
	}
	for range 3 {
		x, ok, e := p.Readdir(fd)
		if x != (api.Entry{}) || ok || e != api.OK {
			t.Errorf("Readdir past the end: %+v, %v, %v", x, ok, e)
		}
	}
	place(t, p, fd, 0)
}

// What comes and goes behind the first Readdir is not told, till there is a Seek.
func TestReaddirWhileNamesComeAndGo(t *testing.T) {
	p := made(t)
	mkdir(t, p, "/d", "/d/a", "/d/b", "/d/c")
	fd := open(t, p, "/d", rd)
	good(t, "Rmdir", p.Rmdir("/d/c")) // ahead of the first one
	mkdir(t, p, "/d/e")
	next(t, p, fd, ".")
	good(t, "Rmdir", p.Rmdir("/d/b"))
	mkdir(t, p, "/d/new")
	good(t, "Rename", p.Rename("/d/a", "/d/A"))
	next(t, p, fd, "..")
	same(t, "as at the first one", names(t, p, fd), "a b e")
	mkdir(t, p, "/d/more")
	same(t, "at the end nothing new comes", names(t, p, fd), "")
	seeks(t, p, fd, 0, api.SeekSet, 0)
	mkdir(t, p, "/d/late") // ahead of the first one behind the Seek
	same(t, "behind a Seek", names(t, p, fd), ". .. more new e A late")
}

// Any Seek that is done begins them anew, one that is refused does not.
func TestReaddirBehindSeek(t *testing.T) {
	p := made(t)
	mkdir(t, p, "/d", "/d/a", "/d/b")
	fd := open(t, p, "/d", rd)
	for _, v := range [][2]int{{0, api.SeekSet}, {0, api.SeekCur}, {0, api.SeekEnd}, {3, api.SeekSet}, {1 << 62, api.SeekSet}} {
		next(t, p, fd, ".")
		next(t, p, fd, "..")
		if _, e := p.Seek(fd, v[0], v[1]); e != api.OK {
			t.Errorf("Seek %v: %v", v, e)
		}
	}
	seeks(t, p, fd, 7, api.SeekSet, 7)
	next(t, p, fd, ".")
	noSeek(t, p, fd, -1, api.SeekSet, api.EINVAL)
	noSeek(t, p, fd, 0, 3, api.EINVAL)
	noGet(t, p, fd, 1, api.EISDIR)
	next(t, p, fd, "..")
	next(t, p, fd, "a")
	place(t, p, fd, 7) // Readdir moves no place
	next(t, p, fd, ".")
}

func TestReaddirOfOneThatIsGone(t *testing.T) {
	p := made(t)
	mkdir(t, p, "/d", "/e", "/g")
	fd, early := open(t, p, "/d", rd), open(t, p, "/e", rd)
	next(t, p, early, ".")
	good(t, "Rmdir", p.Rmdir("/d"))
	good(t, "Rmdir", p.Rmdir("/e"))
	same(t, "it has no entries", names(t, p, fd), "")
	same(t, "those of the first Readdir", names(t, p, early), "..")
	seeks(t, p, early, 0, api.SeekSet, 0)
	same(t, "behind a Seek", names(t, p, early), "")
	moved := open(t, p, "/g", rd)
	good(t, "Rename", p.Rename("/g", "/h"))
	mkdir(t, p, "/h/x")
	same(t, "one that was moved", names(t, p, moved), ". .. x")
}

// One description is gone through once, two each for itself.
func TestReaddirByTwo(t *testing.T) {
	p := made(t)
	mkdir(t, p, "/d", "/d/a")
	fd := open(t, p, "/d", rd)
	d, other := dup(t, p, fd), open(t, p, "/d", rd)
	next(t, p, fd, ".")
	mkdir(t, p, "/d/b")
	next(t, p, d, "..")
	next(t, p, other, ".")
	next(t, p, fd, "a")
	same(t, "the same description", names(t, p, d), "")
	same(t, "another one", names(t, p, other), ".. a b")
	seeks(t, p, d, 0, api.SeekSet, 0)
	same(t, "behind the other one's Seek", names(t, p, fd), ". .. a b")
	same(t, "the other one", names(t, p, other), "")
}

func TestReaddirRefuses(t *testing.T) {
	p := made(t)
	open(t, p, "/f", rw|create)
	pipe(t, p)
	tape(t, p, "x")
	noEntry := func(fd int, want api.Errno) {
		t.Helper()
		x, ok, e := p.Readdir(fd)
		if x != (api.Entry{}) || ok || e != want {
			t.Errorf("Readdir(%d): %+v, %v, %v, want %v", fd, x, ok, e, want)
		}
	}
	for range 2 {
		for fd := range 4 {
			noEntry(fd, api.ENOTDIR)
		}
		for _, fd := range noFd {
			noEntry(fd, api.EBADF)
		}
	}
}

// An open directory is read with the rights of its opening.
func TestReaddirNeedsNoRight(t *testing.T) {
	fs := store(t, 64, 16)
	good(t, "Mkdir", fs.Mkdir(root, "/d", 0o755))
	p := proc(t, fs, ann)
	fd := open(t, p, "/d", rd)
	good(t, "Chmod", fs.Chmod(root, "/d", 0))
	same(t, "Readdir", names(t, p, fd), ". ..")
	_, e := p.Open("/d", rd, 0)
	is(t, "Open", e, api.EACCES)
}
