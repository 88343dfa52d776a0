package fault

import "tinsel/api"

// Chdir: another directory.
func (g *Gate) Chdir(path string) api.Errno {
	d := g.reach()
	return runBare(d.next("chdir"), func() api.Errno { return d.Chdir(path) })
}

// Getcwd: its path.
func (g *Gate) Getcwd() (string, api.Errno) {
	d := g.reach()
	return run(d.next("getcwd"), func() (string, api.Errno) { return d.Getcwd() })
}

// Mkdir: a new directory.
func (g *Gate) Mkdir(path string, mode api.Mode) api.Errno {
	d := g.reach()
	return runBare(d.next("mkdir"), func() api.Errno { return d.Mkdir(path, mode) })
}

// Rmdir: a directory goes.
func (g *Gate) Rmdir(path string) api.Errno {
	d := g.reach()
	return runBare(d.next("rmdir"), func() api.Errno { return d.Rmdir(path) })
}

// Link: one more name.
func (g *Gate) Link(old, path string) api.Errno {
	d := g.reach()
	return runBare(d.next("link"), func() api.Errno { return d.Link(old, path) })
}

// Unlink: a name goes.
func (g *Gate) Unlink(path string) api.Errno {
	d := g.reach()
	return runBare(d.next("unlink"), func() api.Errno { return d.Unlink(path) })
}

// Rename: another name.
func (g *Gate) Rename(old, path string) api.Errno {
	d := g.reach()
	return runBare(d.next("rename"), func() api.Errno { return d.Rename(old, path) })
}

// Symlink: a symbolic link.
func (g *Gate) Symlink(target, path string) api.Errno {
	d := g.reach()
	return runBare(d.next("symlink"), func() api.Errno { return d.Symlink(target, path) })
}

// Readlink: what it says.
func (g *Gate) Readlink(path string) (string, api.Errno) {
	d := g.reach()
	return run(d.next("readlink"), func() (string, api.Errno) { return d.Readlink(path) })
}

// Chmod: permission bits.
func (g *Gate) Chmod(path string, mode api.Mode) api.Errno {
	d := g.reach()
	return runBare(d.next("chmod"), func() api.Errno { return d.Chmod(path, mode) })
}

// Chown: owner and group; -1: as it is.
func (g *Gate) Chown(path string, uid, gid int, follow bool) api.Errno {
	d := g.reach()
	return runBare(d.next("chown"), func() api.Errno { return d.Chown(path, uid, gid, follow) })
}

// Utime: times.
func (g *Gate) Utime(path string, atime, mtime int64, follow bool) api.Errno {
	d := g.reach()
	return runBare(d.next("utime"), func() api.Errno { return d.Utime(path, atime, mtime, follow) })
}

// Truncate: a size.
func (g *Gate) Truncate(path string, size int) api.Errno {
	d := g.reach()
	return runBare(d.next("truncate"), func() api.Errno { return d.Truncate(path, size) })
}

// Stat: what there is to know, through symbolic links.
func (g *Gate) Stat(path string) (api.Stat, api.Errno) {
	d := g.reach()
	return run(d.next("stat"), func() (api.Stat, api.Errno) { return d.Stat(path) })
}

// Lstat: of the link itself.
func (g *Gate) Lstat(path string) (api.Stat, api.Errno) {
	d := g.reach()
	return run(d.next("lstat"), func() (api.Stat, api.Errno) { return d.Lstat(path) })
}

// Access: may it be read (4), written (2), executed (1)?
func (g *Gate) Access(path string, how int) api.Errno {
	d := g.reach()
	return runBare(d.next("access"), func() api.Errno { return d.Access(path, how) })
}
