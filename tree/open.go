package tree

import (
	"slices"
	"strings"

	"tinsel/api"
	"tinsel/dir"
)

// allFlags: those of api.
const allFlags = api.Read | api.Write | api.Append | api.Create | api.Excl | api.Trunc | api.DirOnly | api.NoFollow

// flags are those of Open.
type flags int

// has: all of these?
func (f flags) has(bits flags) bool { return f&bits == bits }

// some: one of these at least?
func (f flags) some(bits flags) bool { return f&bits != 0 }

// fit: may they stand together?
func (f flags) fit() bool {
	switch {
	case f.some(^flags(allFlags)), !f.some(api.Read | api.Write):
		return false
	case f.some(api.Trunc|api.Append) && !f.has(api.Write):
		return false
	}
	return !f.has(api.DirOnly | api.Create)
}

// ending: what they mean by a link at the last name.
func (f flags) ending() ending {
	if f.has(api.NoFollow) || f.has(api.Create|api.Excl) {
		return linkItself
	}
	return throughLink
}

// want: what the caller must be allowed to do.
func (f flags) want() int {
	want := 0
	if f.has(api.Read) {
		want |= read
	}
	if f.has(api.Write) {
		want |= write
	}
	return want
}

// Open: the inode that a path leads to, held once more; a new one, if that is asked for.
func (f *FS) Open(c api.Cred, p string, how int, mode api.Mode) (int, api.Errno) {
	return ask(f, c, func(t *task) int {
		fl := flags(how)
		refuse(api.EINVAL, !fl.fit())
		s := t.follow(p, fl.ending())
		if s.ino == 0 && fl.has(api.Create) {
			return t.hold(t.newFile(s, mode))
		}
		refuse(api.ENOENT, s.ino == 0)
		t.openable(t.stat(s.ino), fl)
		if fl.has(api.Trunc) { // without a refusal only a regular file is left
			must(t.inodes.Truncate(s.ino, 0))
		}
		return t.hold(s.ino)
	})
}

// newFile: an empty one, where there is none.
func (t *task) newFile(s spot, mode api.Mode) int {
	refuse(api.EISDIR, s.slash)
	t.writable(s)
	ino := t.create(s.dir, api.TypeReg, t.masked(mode))
	must(dir.Add(t.inodes, s.dir, s.name, ino))
	t.links(ino, 1)
	return ino
}

// openable: may what is there be opened?
func (t *task) openable(st api.Stat, fl flags) {
	refuse(api.EEXIST, fl.has(api.Create|api.Excl))
	refuse(api.ELOOP, kind(st) == api.TypeLink)
	refuse(api.ENOTDIR, fl.has(api.DirOnly) && !isDir(st))
	refuse(api.EISDIR, isDir(st) && fl.some(api.Write|api.Create))
	refuse(api.EACCES, !t.may(st, fl.want()))
}

// hold: one more hold.
func (t *task) hold(ino int) int {
	must(t.inodes.Hold(ino))
	return ino
}

// Dir: a directory, held once more.
func (f *FS) Dir(c api.Cred, p string) (int, api.Errno) {
	return ask(f, c, func(t *task) int {
		st := t.look(p, true)
		refuse(api.ENOTDIR, !isDir(st))
		refuse(api.EACCES, !t.may(st, search))
		return t.hold(st.Ino)
	})
}

// ReadAt: at most n bytes from off on.
func (f *FS) ReadAt(ino, off, n int) ([]byte, api.Errno) {
	return ask(f, api.Cred{}, func(t *task) []byte {
		plain(t.stat(ino))
		b, e := t.inodes.Read(ino, off, n)
		must(e)
		return b
	})
}

// WriteAt: bytes from off on, as far as there is room.
func (f *FS) WriteAt(ino, off int, b []byte) (int, api.Errno) {
	return ask(f, api.Cred{}, func(t *task) int {
		plain(t.stat(ino))
		n, e := t.inodes.Write(ino, off, b)
		must(e)
		return n
	})
}

// Resize: another size.
func (f *FS) Resize(ino, size int) api.Errno {
	return do(f, api.Cred{}, func(t *task) {
		plain(t.stat(ino))
		must(t.inodes.Truncate(ino, size))
	})
}

// Path: a directory's, from the root on.
func (f *FS) Path(ino int) (string, api.Errno) {
	return ask(f, api.Cred{}, func(t *task) string {
		st := t.stat(ino)
		refuse(api.ENOENT, isDir(st) && gone(st))
		refuse(api.ENOTDIR, !isDir(st))
		var names []string
		for d := ino; d != root; {
			up := t.parent(d)
			s, e := dir.Name(t.inodes, up, d)
			must(e)
			names, d = append(names, s), up
		}
		slices.Reverse(names)
		return "/" + strings.Join(names, "/")
	})
}
