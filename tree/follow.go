package tree

import (
	"tinsel/api"
	"tinsel/dir"
	"tinsel/path"
)

// ending is what a call means by a path's last name, if a link is there.
type ending int

const (
	throughLink ending = iota // what the link leads to
	linkItself                // the link, unless a slash stands behind it
	nameItself                // the name, whatever is there, and a slash or not
)

// spot is where a path leads: a name in a directory, and the inode that is
// there, 0 if there is none. Of a path without a name it is the root alone.
type spot struct {
	dir   int
	name  string
	ino   int
	slash bool // a directory is asked for
}

// bad: a last name that can be neither made nor taken away.
func (s spot) bad() bool { return s.name == "" || s.name == "." || s.name == ".." }

// follow: where a path leads; only at its end there may be nothing.
func (t *task) follow(p string, end ending) spot {
	s, rest := t.begin(p)
	links := 0
names:
	for len(rest) > 0 {
		s.dir, s.name, rest = s.ino, rest[0], rest[1:]
		s.ino = t.find(s.dir, s.name)
		if s.ino == 0 {
			break names
		}
		st, last := t.stat(s.ino), len(rest) == 0
		if kind(st) != api.TypeLink || last && !s.through(end) {
			continue
		}
		links++
		refuse(api.ELOOP, links > api.SymMax)
		s, rest = t.enter(s, st, rest)
	}
	refuse(api.ENOENT, len(rest) > 0)
	refuse(api.ENOTDIR, s.slash && end != nameItself && s.ino != 0 && !isDir(t.stat(s.ino)))
	return s
}

// begin: where one stands ahead of the first name, and the names. A Cwd that
// is no directory is told at the first name: relative paths have one.
func (t *task) begin(p string) (spot, []string) {
	parts, e := path.Split(p)
	must(e)
	s := spot{ino: root, slash: parts.Slash}
	if !parts.Abs && t.who.Cwd != 0 {
		s.ino = t.who.Cwd
	}
	return s, parts.Names
}

// through: is a link at the last name followed?
func (s spot) through(end ending) bool { return end == throughLink || end == linkItself && s.slash }

// find: what a name leads to; 0, if there is none.
func (t *task) find(d int, name string) int {
	st := t.stat(d)
	refuse(api.ENOTDIR, !isDir(st))
	refuse(api.EACCES, !t.may(st, search))
	if name == "." {
		return d // also where there is no such entry any more
	}
	ino, _ := dir.Find(t.inodes, d, name) // a path has only good names: the error can be ENOENT alone
	return ino
}

// enter: a link's content takes its place ahead of the rest.
func (t *task) enter(s spot, link api.Stat, rest []string) (spot, []string) {
	parts, e := path.Split(t.content(link))
	must(e)
	s.ino = s.dir
	if parts.Abs {
		s.ino = root
	}
	if len(rest) == 0 {
		s.slash = s.slash || parts.Slash
	}
	return s, append(parts.Names, rest...)
}

// resolve: the inode that a path leads to.
func (t *task) resolve(p string, follow bool) int {
	end := linkItself
	if follow {
		end = throughLink
	}
	s := t.follow(p, end)
	refuse(api.ENOENT, s.ino == 0)
	return s.ino
}

// look: likewise, and what there is to know of it.
func (t *task) look(p string, follow bool) api.Stat { return t.stat(t.resolve(p, follow)) }

// Resolve: the inode that a path leads to.
func (f *FS) Resolve(c api.Cred, p string, follow bool) (int, api.Errno) {
	return ask(f, c, func(t *task) int { return t.resolve(p, follow) })
}

// Stat: what there is to know of it.
func (f *FS) Stat(c api.Cred, p string, follow bool) (api.Stat, api.Errno) {
	return ask(f, c, func(t *task) api.Stat { return t.look(p, follow) })
}

// Access: may one do that with it?
func (f *FS) Access(c api.Cred, p string, how int) api.Errno {
	return do(f, c, func(t *task) {
		refuse(api.EINVAL, how < 0 || how > search|write|read)
		refuse(api.EACCES, !t.may(t.look(p, true), how))
	})
}

// Readlink: a link's content.
func (f *FS) Readlink(c api.Cred, p string) (string, api.Errno) {
	return ask(f, c, func(t *task) string {
		st := t.look(p, false)
		refuse(api.EINVAL, kind(st) != api.TypeLink)
		return t.content(st)
	})
}
