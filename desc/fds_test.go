package desc_test

import (
	"fmt"
	"testing"

	"tinsel/api"
)

// P7.6: Close, CloseAll, Dup, Dup2.

func TestClose(t *testing.T) {
	p := made(t)
	open(t, p, "/f", rw|create)
	pipe(t, p)
	tape(t, p, "x")
	for _, fd := range []int{1, 3, 0, 2} {
		is(t, "Close", p.Close(fd), api.OK)
		is(t, "Close again", p.Close(fd), api.EBADF)
	}
	fds(t, p)
	for _, fd := range append(noFd, 0, 1, 2, 3) {
		is(t, fmt.Sprint("Close ", fd), p.Close(fd), api.EBADF)
	}
}

// Behind Close no call knows the descriptor any more.
func TestClosedIsUnknown(t *testing.T) {
	p := made(t)
	mkdir(t, p, "/d")
	open(t, p, "/f", rw|create)
	open(t, p, "/d", rd)
	pipe(t, p)
	tape(t, p, "x")
	for fd := range 5 {
		good(t, "Close", p.Close(fd))
		what := fmt.Sprint("closed ", fd)
		noGet(t, p, fd, 1, api.EBADF)
		noPut(t, p, fd, "x", api.EBADF)
		noSeek(t, p, fd, 0, 0, api.EBADF)
		b, e := p.Taped(fd)
		none(t, what, len(b), e, api.EBADF)
		n, e := p.Dup(fd)
		none(t, what, n, e, api.EBADF)
		n, e = p.Dup2(fd, 7)
		none(t, what, n, e, api.EBADF)
		st, e := p.Fstat(fd)
		same(t, what, fmt.Sprint(st, e), fmt.Sprint(api.Stat{}, api.EBADF))
		is(t, what, p.Ftruncate(fd, 0), api.EBADF)
		x, ok, e := p.Readdir(fd)
		same(t, what, fmt.Sprint(x, ok, e), fmt.Sprint(api.Entry{}, false, api.EBADF))
	}
	fds(t, p)
}

// P7.9: a file whose name is gone is freed with its last descriptor, not sooner.
func TestLastDescriptorLetsGo(t *testing.T) {
	p := made(t)
	file(t, p, "/f", "")
	good(t, "Unlink", p.Unlink("/f")) // the directory has a slot for the name from here on
	was := picture(p.FS())
	fd := open(t, p, "/f", rw|create)
	ino := inode(t, p.FS(), "/f")
	put(t, p, fd, count(1000))
	d, other := dup(t, p, fd), open(t, p, "/f", rd)
	heldBy(t, "one for each description", p.FS(), ino, 2)
	good(t, "Unlink", p.Unlink("/f"))
	good(t, "Close", p.Close(fd))
	heldBy(t, "Dup's leads to it", p.FS(), ino, 2)
	seeks(t, p, d, 0, api.SeekSet, 0)
	gets(t, p, d, 2000, count(1000))
	good(t, "Close", p.Close(d))
	heldBy(t, "the other one", p.FS(), ino, 1)
	uses(t, "one leads to it", p.FS(), ino, true)
	gets(t, p, other, 2000, count(1000))
	st, e := p.Fstat(other)
	same(t, "its links", fmt.Sprint(st.Links, e), fmt.Sprint(0, api.OK))
	good(t, "Close", p.Close(other))
	uses(t, "none does", p.FS(), ino, false)
	same(t, "nothing is left of it", picture(p.FS()), was)
}

func TestCloseAll(t *testing.T) {
	p := made(t)
	mkdir(t, p, "/d", "/gone", "/d/f0")
	good(t, "Rmdir", p.Rmdir("/d/f0")) // the directories have slots for all names from here on
	good(t, "Rmdir", p.Rmdir("/gone"))
	was := picture(p.FS())
	for i := range 5 {
		path := fmt.Sprint("/d/f", i)
		put(t, p, open(t, p, path, rw|create), count(500))
		good(t, "Unlink", p.Unlink(path))
	}
	dup(t, p, 3)
	dup(t, p, 3)
	r, w := pipe(t, p)
	tape(t, p, "x")
	dir := open(t, p, "/d", rd)
	mkdir(t, p, "/gone")
	open(t, p, "/gone", rd)
	good(t, "Rmdir", p.Rmdir("/gone"))
	good(t, "Close", p.Close(1))
	same(t, "open", p.Fds(), []int{0, 2, 3, 4, 5, 6, r, w, 9, dir, 11})
	p.CloseAll()
	fds(t, p)
	same(t, "all is let go", picture(p.FS()), was)
	p.CloseAll()
	fds(t, p)
	same(t, "again", picture(p.FS()), was)
	same(t, "the lowest one", open(t, p, "/d", rd), 0)
}

func TestDup(t *testing.T) {
	p := made(t)
	file(t, p, "/f", "abcdef")
	open(t, p, "/f", rw)
	open(t, p, "/f", rd)
	open(t, p, "/f", rd)
	good(t, "Close", p.Close(1))
	n, e := p.Dup(0)
	number(t, "Dup", n, e, 1)
	n, e = p.Dup(1)
	number(t, "Dup", n, e, 3)
	gets(t, p, 0, 1, "a") // P7.9: they share the place
	gets(t, p, 1, 1, "b")
	put(t, p, 3, "C")
	place(t, p, 0, 3)
	seeks(t, p, 1, 5, api.SeekSet, 5)
	gets(t, p, 0, 9, "f")
	gets(t, p, 2, 9, "abCdef") // the other one has its own
	good(t, "Close", p.Close(0))
	seeks(t, p, 1, 0, api.SeekSet, 0)
	gets(t, p, 3, 2, "ab")
	place(t, p, 1, 2)
	for _, fd := range append(noFd, 0, 4) {
		n, e := p.Dup(fd)
		none(t, fmt.Sprint("Dup ", fd), n, e, api.EBADF)
	}
	fds(t, p, 1, 2, 3)
}

func TestDupTooMany(t *testing.T) {
	p := full(t)
	refused(t, "Dup", p, api.EMFILE, func() api.Errno {
		n, e := p.Dup(3)
		none(t, "Dup", n, e, e)
		return e
	})
	for _, fd := range []int{-1, 16, 17} {
		n, e := p.Dup(fd)
		none(t, "no descriptor, and too many", n, e, api.EBADF)
	}
	good(t, "Close", p.Close(5))
	n, e := p.Dup(5)
	none(t, "closed", n, e, api.EBADF)
	n, e = p.Dup(15)
	number(t, "Dup", n, e, 5)
}

func TestDup2(t *testing.T) {
	p := made(t)
	file(t, p, "/f", "abcdef")
	file(t, p, "/g", "ghi")
	f, g := open(t, p, "/f", rw), open(t, p, "/g", rw)
	n, e := p.Dup2(f, 15)
	number(t, "onto a free one", n, e, 15)
	gets(t, p, 15, 2, "ab")
	place(t, p, f, 2)
	ino := inode(t, p.FS(), "/g")
	heldBy(t, "g", p.FS(), ino, 1)
	n, e = p.Dup2(15, g)
	number(t, "onto an open one", n, e, g)
	heldBy(t, "g is closed", p.FS(), ino, 0)
	gets(t, p, g, 2, "cd")
	place(t, p, f, 4)
	fds(t, p, 0, 1, 15)
	heldBy(t, "f", p.FS(), inode(t, p.FS(), "/f"), 1)
	n, e = p.Dup2(f, g) // that leads there already
	number(t, "onto one of its own", n, e, g)
	place(t, p, g, 4)
	n, e = p.Dup2(g, g)
	number(t, "onto itself", n, e, g)
	gets(t, p, g, 9, "ef")
	heldBy(t, "f", p.FS(), inode(t, p.FS(), "/f"), 1)
	good(t, "Close", p.Close(0))
	good(t, "Close", p.Close(15))
	place(t, p, g, 6)
	good(t, "Close", p.Close(g))
	heldBy(t, "f", p.FS(), inode(t, p.FS(), "/f"), 0)
}

// Onto itself nothing is done, and the description does not end.
func TestDup2OntoItself(t *testing.T) {
	p := made(t)
	fd := open(t, p, "/f", rw|create)
	ino := inode(t, p.FS(), "/f")
	put(t, p, fd, "text")
	good(t, "Unlink", p.Unlink("/f"))
	n, e := p.Dup2(fd, fd)
	number(t, "Dup2", n, e, fd)
	uses(t, "Dup2", p.FS(), ino, true)
	place(t, p, fd, 4)
	good(t, "Close", p.Close(fd))
	uses(t, "closed once", p.FS(), ino, false)
	n, e = p.Dup2(fd, fd)
	none(t, "one that is not open onto itself", n, e, api.EBADF)
	n, e = p.Dup2(7, 7)
	none(t, "one that is not open onto itself", n, e, api.EBADF)
	fds(t, p)
}

// What to led to is closed: the file is let go, the pipe's end is gone.
func TestDup2Closes(t *testing.T) {
	p := made(t)
	fd := open(t, p, "/f", rw|create)
	ino := inode(t, p.FS(), "/f")
	good(t, "Unlink", p.Unlink("/f"))
	tp := tape(t, p, "tape")
	n, e := p.Dup2(tp, fd)
	number(t, "Dup2", n, e, fd)
	uses(t, "Dup2", p.FS(), ino, false)
	gets(t, p, fd, 2, "ta")
	gets(t, p, tp, 9, "pe")

	r, w := pipe(t, p)
	w2 := dup(t, p, w)
	n, e = p.Dup2(tp, w)
	number(t, "Dup2", n, e, w)
	noGet(t, p, r, 1, api.EAGAIN) // w2 leads to the end still
	put(t, p, w2, "x")
	n, e = p.Dup2(tp, w2)
	number(t, "onto the last one of the end to write", n, e, w2)
	gets(t, p, r, 9, "x")
	gets(t, p, r, 9, "")

	r, w = pipe(t, p)
	n, e = p.Dup2(w, r)
	number(t, "onto the last one of the end to read", n, e, r)
	noPut(t, p, w, "x", api.EPIPE)
	noPut(t, p, r, "x", api.EPIPE)
	noGet(t, p, r, 1, api.EBADF)

	r, w = pipe(t, p)
	n, e = p.Dup2(r, w)
	number(t, "the other way round", n, e, w)
	gets(t, p, w, 1, "")
	gets(t, p, r, 1, "")
}

func TestDup2Refuses(t *testing.T) {
	p := made(t)
	open(t, p, "/f", rw|create)
	tape(t, p, "x")
	for _, to := range []int{-1, 16, 17, 1 << 40, -1 << 63, 1<<63 - 1} {
		for _, fd := range []int{0, 1, 2, -1, 16, to} {
			refused(t, fmt.Sprintf("Dup2(%d, %d)", fd, to), p, api.EBADF, func() api.Errno {
				n, e := p.Dup2(fd, to)
				none(t, "Dup2", n, e, e)
				return e
			})
		}
	}
	for _, fd := range noFd {
		refused(t, fmt.Sprintf("Dup2(%d, 1)", fd), p, api.EBADF, func() api.Errno {
			n, e := p.Dup2(fd, 1)
			none(t, "Dup2", n, e, e)
			return e
		})
	}
	gets(t, p, 1, 9, "x")
}

// With all descriptors open there is room for Dup2.
func TestDup2WhenFull(t *testing.T) {
	p := full(t)
	for to := range api.OpenMax {
		n, e := p.Dup2(3, to)
		number(t, "Dup2", n, e, to)
	}
	put(t, p, 0, "text")
	place(t, p, 15, 4)
	heldBy(t, "one description", p.FS(), inode(t, p.FS(), "/f"), 1)
	p.CloseAll()
	heldBy(t, "none", p.FS(), inode(t, p.FS(), "/f"), 0)
}
