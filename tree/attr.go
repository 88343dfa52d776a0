package tree

import (
	"tinsel/api"
	"tinsel/perm"
)

// Chmod: other permission bits.
func (f *FS) Chmod(c api.Cred, p string, mode api.Mode) api.Errno {
	return do(f, c, func(t *task) {
		st := t.look(p, true)
		refuse(api.EPERM, !t.owns(st))
		if t.who.Uid != 0 && kind(st) == api.TypeReg && !perm.Member(t.who, st.Gid) {
			mode &^= api.SetGid
		}
		must(t.inodes.SetMode(st.Ino, mode))
	})
}

// Chown: another owner, another group; -1: as it is.
func (f *FS) Chown(c api.Cred, p string, uid, gid int, follow bool) api.Errno {
	return do(f, c, func(t *task) {
		st := t.look(p, follow)
		refuse(api.EINVAL, uid < -1 || gid < -1)
		refuse(api.EPERM, t.who.Uid != 0 && !t.mayGive(st, uid, gid))
		must(t.inodes.SetOwner(st.Ino, uid, gid))
		if kind(st) == api.TypeReg && (uid != -1 || gid != -1) {
			must(t.inodes.SetMode(st.Ino, st.Mode&^(api.SetUid|api.SetGid)))
		}
	})
}

// mayGive: one who is not root may give what is his to a group of his alone.
func (t *task) mayGive(st api.Stat, uid, gid int) bool {
	toOwner := uid == -1 || uid == st.Uid
	toGroup := gid == -1 || gid == st.Gid || perm.Member(t.who, gid)
	return t.who.Uid == st.Uid && toOwner && toGroup
}

// Utime: other times.
func (f *FS) Utime(c api.Cred, p string, atime, mtime int64, follow bool) api.Errno {
	return do(f, c, func(t *task) {
		st := t.look(p, follow)
		refuse(api.EPERM, !t.owns(st))
		must(t.inodes.SetTimes(st.Ino, atime, mtime))
	})
}

// Truncate: another size.
func (f *FS) Truncate(c api.Cred, p string, size int) api.Errno {
	return do(f, c, func(t *task) {
		st := t.look(p, true)
		plain(st)
		refuse(api.EACCES, !t.may(st, write))
		must(t.inodes.Truncate(st.Ino, size))
	})
}

// plain: a call on bytes gives up, unless it is a regular file.
func plain(st api.Stat) {
	refuse(api.EISDIR, isDir(st))
	refuse(api.EINVAL, kind(st) != api.TypeReg)
}
