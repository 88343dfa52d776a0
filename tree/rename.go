package tree

import (
	"tinsel/api"
	"tinsel/dir"
)

// Rename: another name for what is there.
func (f *FS) Rename(c api.Cred, from, to string) api.Errno {
	return do(f, c, func(t *task) {
		a := t.follow(from, nameItself)
		b := t.follow(to, nameItself)
		refuse(api.EBUSY, a.bad() || b.bad())
		refuse(api.ENOENT, a.ino == 0 || gone(t.stat(b.dir)))
		t.movable(a, b)
		if a.ino == b.ino {
			return
		}
		t.fits(a, b)
		t.move(a, b)
	})
}

// movable: may the caller move what is at a to b?
func (t *task) movable(a, b spot) {
	it := t.stat(a.ino)
	refuse(api.ENOTDIR, (a.slash || b.slash) && !isDir(it))
	refuse(api.EACCES, !t.may(t.stat(a.dir), write))
	refuse(api.EACCES, !t.may(t.stat(b.dir), write))
	// Its entry for the directory above it is written, too.
	refuse(api.EACCES, isDir(it) && a.dir != b.dir && !t.may(it, write))
	t.unstuck(a)
	if b.ino != 0 {
		t.unstuck(b)
	}
}

// fits: can what is at a stand at b?
func (t *task) fits(a, b spot) {
	moved := isDir(t.stat(a.ino))
	refuse(api.EINVAL, moved && t.within(b.dir, a.ino))
	if b.ino == 0 {
		more := moved && a.dir != b.dir
		refuse(api.EMLINK, more && t.stat(b.dir).Links >= api.LinkMax)
		return
	}
	there := isDir(t.stat(b.ino))
	refuse(api.EISDIR, there && !moved)
	refuse(api.ENOTDIR, moved && !there)
	refuse(api.ENOTEMPTY, there && !t.empty(b.ino))
}

// within: is d that directory, or does it lie in it?
func (t *task) within(d, top int) bool {
	for d != top && d != root {
		d = t.parent(d)
	}
	return d == top
}

// parent: the directory above one.
func (t *task) parent(d int) int {
	up, e := dir.Find(t.inodes, d, "..")
	must(e)
	return up
}

// move: the new name first, as it alone may find no room.
func (t *task) move(a, b spot) {
	if b.ino == 0 {
		must(dir.Add(t.inodes, b.dir, b.name, a.ino))
	} else {
		must(dir.Put(t.inodes, b.dir, b.name, a.ino))
	}
	must(dir.Remove(t.inodes, a.dir, a.name))
	if b.ino != 0 {
		t.drop(b)
	}
	if isDir(t.stat(a.ino)) && a.dir != b.dir {
		must(dir.Put(t.inodes, a.ino, "..", b.dir))
		t.links(b.dir, 1)
		t.links(a.dir, -1)
	}
	t.links(a.ino, 0) // for its ctime
}
