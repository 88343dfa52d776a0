package desc

import (
	"tinsel/api"
	"tinsel/tree"
)

const (
	// allFlags are those that have a name.
	allFlags = api.Read | api.Write | api.Append | api.Create | api.Excl | api.Trunc | api.DirOnly | api.NoFollow
	// lastPlace is the highest one that a file's place may be.
	lastPlace = 1 << 62
)

// file is a file of the file system that is open, a directory too: how, and
// at which place. Of a directory it keeps the entries that are not told yet.
type file struct {
	fs     *tree.FS
	ino    int
	flags  int
	place  int
	listed bool // rest was asked for
	rest   []api.Entry
}

// Open: a file by its path.
func (p *Proc) Open(path string, flags int, mode api.Mode) (int, api.Errno) {
	switch {
	case !p.made():
		return 0, api.EFAULT
	case flags&(api.Read|api.Write) == 0, flags&^allFlags != 0:
		return 0, api.EINVAL
	}
	if e := p.room(1); e != api.OK {
		return 0, e
	}
	ino, e := p.fs.Open(p.who, path, flags, mode)
	if e != api.OK {
		return 0, e
	}
	return p.lowest(&description{what: &file{fs: p.fs, ino: ino, flags: flags}}), api.OK
}

// has: was it opened with that flag?
func (f *file) has(flag int) bool { return f.flags&flag != 0 }

func (f *file) read(n int) ([]byte, api.Errno) {
	if !f.has(api.Read) {
		return nil, api.EBADF
	}
	b, e := f.fs.ReadAt(f.ino, f.place, n)
	f.place += len(b)
	return b, e
}

func (f *file) write(b []byte) (int, api.Errno) {
	if !f.has(api.Write) {
		return 0, api.EBADF
	}
	at := f.place
	if f.has(api.Append) {
		st, _ := f.stat() // if there is an error, WriteAt tells it, too
		at = st.Size
	}
	n, e := f.fs.WriteAt(f.ino, at, b)
	if e == api.OK { // else the place, too, stays as it was
		f.place = at + n
	}
	return n, e
}

func (f *file) stat() (api.Stat, api.Errno) { return f.fs.Info(f.ino) }

func (f *file) end() { f.fs.Release(f.ino) }

// Seek: the place where reading and writing go on.
func (p *Proc) Seek(fd, off, whence int) (int, api.Errno) {
	f, e := p.asFile(fd, api.ESPIPE)
	if e != api.OK {
		return 0, e
	}
	from, e := f.from(whence)
	switch {
	case e != api.OK:
		return 0, e
	case off < -from, off > lastPlace-from: // not by their sum, which could wrap
		return 0, api.EINVAL
	}
	f.place, f.listed, f.rest = from+off, false, nil
	return f.place, api.OK
}

// from: the place that Seek counts from.
func (f *file) from(whence int) (int, api.Errno) {
	switch whence {
	case api.SeekSet:
		return 0, api.OK
	case api.SeekCur:
		return f.place, api.OK
	case api.SeekEnd:
		st, e := f.stat()
		return st.Size, e
	}
	return 0, api.EINVAL
}

// Ftruncate: a size.
func (p *Proc) Ftruncate(fd, size int) api.Errno {
	f, e := p.asFile(fd, api.EINVAL)
	switch {
	case e != api.OK:
		return e
	case !f.has(api.Write): // so is every directory
		return api.EINVAL
	}
	return f.fs.Resize(f.ino, size)
}

// Readdir: the next entry; false: there is none.
func (p *Proc) Readdir(fd int) (api.Entry, bool, api.Errno) {
	f, e := p.asFile(fd, api.ENOTDIR)
	if e != api.OK {
		return api.Entry{}, false, e
	}
	if e := f.list(); e != api.OK {
		return api.Entry{}, false, e
	}
	if len(f.rest) == 0 {
		return api.Entry{}, false, api.OK
	}
	x := f.rest[0]
	f.rest = f.rest[1:]
	return x, true, api.OK
}

// list: a directory's entries are asked for once, so that those that come and
// go while they are told count no more.
func (f *file) list() api.Errno {
	if f.listed {
		return api.OK
	}
	l, e := f.fs.Entries(f.ino)
	f.listed, f.rest = e == api.OK, l
	return e
}
