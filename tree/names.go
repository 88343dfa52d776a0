package tree

import (
	"tinsel/api"
	"tinsel/dir"
	"tinsel/path"
	"tinsel/perm"
)

// Mkdir: a new directory.
func (f *FS) Mkdir(c api.Cred, p string, mode api.Mode) api.Errno {
	return do(f, c, func(t *task) {
		s := t.follow(p, nameItself)
		t.vacant(s)
		t.writable(s)
		refuse(api.EMLINK, t.stat(s.dir).Links >= api.LinkMax)
		ino := t.create(s.dir, api.TypeDir, t.masked(mode))
		must(dir.Init(t.inodes, ino, s.dir))
		must(dir.Add(t.inodes, s.dir, s.name, ino))
		t.links(ino, 2)
		t.links(s.dir, 1)
	})
}

// Rmdir: an empty directory is none any more.
func (f *FS) Rmdir(c api.Cred, p string) api.Errno {
	return do(f, c, func(t *task) {
		s := t.follow(p, nameItself)
		refuse(api.EBUSY, s.name == "")
		refuse(api.EINVAL, s.name == ".")
		refuse(api.ENOTEMPTY, s.name == "..")
		t.removable(s)
		refuse(api.ENOTDIR, !isDir(t.stat(s.ino)))
		refuse(api.ENOTEMPTY, !t.empty(s.ino))
		must(dir.Remove(t.inodes, s.dir, s.name))
		t.drop(s)
	})
}

// Symlink: a new link with that content.
func (f *FS) Symlink(c api.Cred, target, p string) api.Errno {
	return do(f, c, func(t *task) {
		_, e := path.Split(target)
		must(e)
		s := t.follow(p, nameItself)
		t.vacant(s)
		refuse(api.ENOENT, s.slash)
		t.writable(s)
		ino := t.create(s.dir, api.TypeLink, 0o777)
		n, _ := t.inodes.Write(ino, 0, []byte(target)) // it fits a file: only room can be missing
		refuse(api.ENOSPC, n < len(target))
		must(dir.Add(t.inodes, s.dir, s.name, ino))
		t.links(ino, 1)
	})
}

// Link: one more name.
func (f *FS) Link(c api.Cred, from, to string) api.Errno {
	return do(f, c, func(t *task) {
		st := t.look(from, false)
		s := t.follow(to, nameItself)
		t.vacant(s)
		refuse(api.ENOENT, s.slash)
		t.writable(s)
		refuse(api.EPERM, isDir(st))
		refuse(api.EMLINK, st.Links >= api.LinkMax)
		must(dir.Add(t.inodes, s.dir, s.name, st.Ino))
		t.links(st.Ino, 1)
	})
}

// Unlink: a name less.
func (f *FS) Unlink(c api.Cred, p string) api.Errno {
	return do(f, c, func(t *task) {
		s := t.follow(p, nameItself)
		refuse(api.EISDIR, s.bad())
		t.removable(s)
		refuse(api.EISDIR, isDir(t.stat(s.ino)))
		refuse(api.ENOTDIR, s.slash)
		must(dir.Remove(t.inodes, s.dir, s.name))
		t.drop(s)
	})
}

// vacant: can a name be made there?
func (t *task) vacant(s spot) { refuse(api.EEXIST, s.bad() || s.ino != 0) }

// writable: may the caller make one in that directory?
func (t *task) writable(s spot) {
	d := t.stat(s.dir)
	refuse(api.ENOENT, gone(d))
	refuse(api.EACCES, !t.may(d, write))
}

// removable: may the name that is there be taken away?
func (t *task) removable(s spot) {
	refuse(api.ENOENT, s.ino == 0)
	refuse(api.EACCES, !t.may(t.stat(s.dir), write))
	t.unstuck(s)
}

// unstuck: may it, as far as it hangs on a sticky directory?
func (t *task) unstuck(s spot) {
	refuse(api.EPERM, !perm.Remove(t.stat(s.dir), t.stat(s.ino), t.who))
}

// masked: a mode without the bits of the caller's umask.
func (t *task) masked(mode api.Mode) api.Mode { return mode &^ api.Mode(t.who.Umask) }

// create: a new file of a type for a directory, without a name yet.
func (t *task) create(d int, of, mode api.Mode) int {
	parent, gid := t.stat(d), t.who.Gid
	mode = of | mode&api.PermMask
	if parent.Mode&api.SetGid != 0 {
		gid = parent.Gid
		if of == api.TypeDir {
			mode |= api.SetGid
		}
	}
	ino, e := t.inodes.Alloc(mode, t.who.Uid, gid)
	must(e)
	t.back = append(t.back, func() { t.inodes.Links(ino, 0) }) // without a link it is in use no more
	return ino
}

// drop: what was there has lost its name; a directory has its own entries
// no more, either, nor its parent the link from there.
func (t *task) drop(s spot) {
	if !isDir(t.stat(s.ino)) {
		t.links(s.ino, -1)
		return
	}
	must(t.inodes.Truncate(s.ino, 0))
	t.links(s.ino, -2)
	t.links(s.dir, -1)
}
