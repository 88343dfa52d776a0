package desc_test

import (
	"fmt"
	"testing"

	"tinsel/api"
	"tinsel/desc"
)

// P7.2

func TestOpen(t *testing.T) {
	p := made(t)
	for want := range 3 {
		fd, e := p.Open("f", rw|create, 0o666)
		number(t, "Open", fd, e, want)
		place(t, p, fd, 0)
	}
	put(t, p, 0, "text")
	fd, e := p.Open("/f", rd, 0)
	number(t, "Open", fd, e, 3)
	gets(t, p, 3, 9, "text") // from its beginning, wherever others stand
	fd, e = p.Open("/./f", wr|api.Append, 0)
	number(t, "Open", fd, e, 4)
	place(t, p, 4, 0)
	fd, e = p.Open("/", rd|api.DirOnly, 0)
	number(t, "Open", fd, e, 5)
	place(t, p, 5, 0)
	heldBy(t, "each once", p.FS(), 2, 5)
	heldBy(t, "the root", p.FS(), 1, 2)
}

// The lowest free one, wherever it is.
func TestOpenTakesTheLowest(t *testing.T) {
	p := made(t)
	for range api.OpenMax {
		open(t, p, "f", rw|create)
	}
	for _, fd := range []int{7, 0, 15, 3} {
		good(t, "Close", p.Close(fd))
	}
	for _, want := range []int{0, 3, 7, 15} {
		fd, e := p.Open("f", rd, 0)
		number(t, "Open", fd, e, want)
	}
	fd, e := p.Open("f", rd, 0)
	none(t, "Open", fd, e, api.EMFILE)
}

func TestOpenFlags(t *testing.T) {
	p := made(t)
	file(t, p, "/f", "text")
	for _, flags := range []int{
		0, create, create | api.Excl, api.Append, api.Trunc, api.DirOnly, api.NoFollow, 252, // neither
		rd | 256, wr | 256, rw | 512, rd | 1<<40, wr | -1<<63, -1, -2, -256 | rw, // bits without a name
		256, 1 << 62, -1 << 63, -256, // both
	} {
		for _, path := range []string{"/f", "", "/no/no", letters(28)} {
			refused(t, fmt.Sprintf("Open %q, %d", path, flags), p, api.EINVAL, func() api.Errno {
				fd, e := p.Open(path, flags, 0o666)
				none(t, "Open", fd, e, e)
				return e
			})
		}
	}
	for flags := range 256 { // the others are tree's Open's
		q, other := proc(t, store(t, 64, 16), root), store(t, 64, 16)
		file(t, q, "/f", "text")
		ino, e := other.Open(root, "/f", wr|create, 0o666)
		good(t, "Open", e)
		other.WriteAt(ino, 0, []byte("text"))
		good(t, "Release", other.Release(ino))
		good(t, "Hold", other.Hold(1)) // as q does
		for _, path := range []string{"/f", "/new", "/"} {
			fd, e := q.Open(path, flags, 0o4751)
			_, want := other.Open(root, path, flags, 0o4751)
			what := fmt.Sprintf("Open %s, %d", path, flags)
			is(t, what, e, want)
			if e != api.OK {
				same(t, what, fd, 0)
			}
			same(t, what, picture(q.FS()), picture(other))
		}
	}
}

// EMFILE stands behind EINVAL, and ahead of all that tree's Open says.
func TestOpenTooMany(t *testing.T) {
	p := full(t)
	for _, v := range []struct {
		path  string
		flags int
		want  api.Errno
	}{
		{"/f", rd, api.EMFILE}, {"/new", wr | create, api.EMFILE}, {"/no", rd, api.EMFILE}, {"", rd, api.EMFILE}, {"/f/x", rd, api.EMFILE}, {"/", wr, api.EMFILE},
		{"/f", rd | api.Trunc, api.EMFILE}, {"/f", rd | api.Append, api.EMFILE}, {"/f", wr | create | api.DirOnly, api.EMFILE}, {"/f", wr | api.Trunc, api.EMFILE}, {"/f", wr | create | api.Excl, api.EMFILE},
		{"/f", 0, api.EINVAL}, {"/no", create, api.EINVAL}, {"/f", rd | 256, api.EINVAL}, {"", 256, api.EINVAL}, {"/f", -1, api.EINVAL},
	} {
		refused(t, fmt.Sprintf("Open %q, %d", v.path, v.flags), p, v.want, func() api.Errno {
			fd, e := p.Open(v.path, v.flags, 0o666)
			none(t, "Open", fd, e, e)
			return e
		})
	}
	good(t, "Close", p.Close(11))
	fd, e := p.Open("/f", rd|api.Trunc, 0) // now it is asked
	none(t, "Open", fd, e, api.EINVAL)
	fd, e = p.Open("/f", rd, 0)
	number(t, "Open", fd, e, 11)
}

// full: a process with OpenMax descriptors, all of /f.
func full(t *testing.T) *desc.Proc {
	t.Helper()
	p := made(t)
	for want := range api.OpenMax {
		fd, e := p.Open("/f", rw|create, 0o666)
		number(t, "Open", fd, e, want)
	}
	same(t, "all are open", len(p.Fds()), 16)
	return p
}

// A refused Open takes no descriptor and holds nothing.
func TestOpenRefused(t *testing.T) {
	p := proc(t, store(t, 64, 16), ann)
	for path, want := range map[string]api.Errno{"": api.ENOENT, "/no": api.ENOENT, "/no/x": api.ENOENT, letters(28): api.ENAMETOOLONG, "\x00": api.EINVAL, "/new": api.ENOENT} {
		refused(t, "Open "+path, p, want, func() api.Errno {
			fd, e := p.Open(path, rw, 0o666)
			none(t, "Open", fd, e, e)
			return e
		})
	}
	refused(t, "not written", p, api.EACCES, func() api.Errno { _, e := p.Open("/new", rw|create, 0o666); return e })
	refused(t, "a directory", p, api.EISDIR, func() api.Errno { _, e := p.Open(".", rw, 0o666); return e })
	fd, e := p.Open("/", rd, 0)
	number(t, "Open", fd, e, 0)
}

// The process' umask, uid, gid and directory count.
func TestOpenAsTheProcess(t *testing.T) {
	fs := store(t, 64, 16)
	good(t, "Mkdir", fs.Mkdir(root, "/d", 0o777))
	p := proc(t, fs, in(api.Cred{Uid: 7, Gid: 70, Umask: 0o027}, inode(t, fs, "/d")))
	fs.Clock(9)
	fd, e := p.Open("f", wr|create, 0o7666)
	number(t, "Open", fd, e, 0)
	st, e := fs.Stat(root, "/d/f", false)
	same(t, "what it made", fmt.Sprintf("%o %d %d %d %v", int(st.Mode), st.Uid, st.Gid, st.Mtime, e), "107640 7 70 9 Success")
	is(t, "of what it made nothing is asked", p.Chmod("f", 0), api.OK)
	_, e = p.Open("f", wr, 0)
	is(t, "Open", e, api.EACCES)
	put(t, p, 0, "open still")
	holds(t, p, "/d/f", "open still")
}

// Trunc empties, without it all stays.
func TestOpenTrunc(t *testing.T) {
	p := made(t)
	file(t, p, "/f", "text")
	open(t, p, "/f", rw)
	holds(t, p, "/f", "text")
	open(t, p, "/f", wr|api.Trunc)
	holds(t, p, "/f", "")
	gets(t, p, 0, 9, "")
}
