package desc

import "tinsel/api"

// These are the calls of the layer below, done as this process. Of a process
// that no call made they are asked of no file system, which says EFAULT.

// Mkdir: a new directory.
func (p *Proc) Mkdir(path string, mode api.Mode) api.Errno {
	return p.FS().Mkdir(p.cred(), path, mode)
}

// Rmdir: a directory goes.
func (p *Proc) Rmdir(path string) api.Errno { return p.FS().Rmdir(p.cred(), path) }

// Link: one more name.
func (p *Proc) Link(old, path string) api.Errno { return p.FS().Link(p.cred(), old, path) }

// Unlink: a name goes.
func (p *Proc) Unlink(path string) api.Errno { return p.FS().Unlink(p.cred(), path) }

// Rename: another name.
func (p *Proc) Rename(old, path string) api.Errno { return p.FS().Rename(p.cred(), old, path) }

// Symlink: a symbolic link.
func (p *Proc) Symlink(target, path string) api.Errno {
	return p.FS().Symlink(p.cred(), target, path)
}

// Readlink: what it says.
func (p *Proc) Readlink(path string) (string, api.Errno) { return p.FS().Readlink(p.cred(), path) }

// Chmod: permission bits.
func (p *Proc) Chmod(path string, mode api.Mode) api.Errno {
	return p.FS().Chmod(p.cred(), path, mode)
}

// Chown: owner and group; -1: as it is.
func (p *Proc) Chown(path string, uid, gid int, follow bool) api.Errno {
	return p.FS().Chown(p.cred(), path, uid, gid, follow)
}

// Utime: times.
func (p *Proc) Utime(path string, atime, mtime int64, follow bool) api.Errno {
	return p.FS().Utime(p.cred(), path, atime, mtime, follow)
}

// Truncate: a size.
func (p *Proc) Truncate(path string, size int) api.Errno {
	return p.FS().Truncate(p.cred(), path, size)
}

// Stat: what there is to know, through symbolic links.
func (p *Proc) Stat(path string) (api.Stat, api.Errno) { return p.FS().Stat(p.cred(), path, true) }

// Lstat: of the link itself.
func (p *Proc) Lstat(path string) (api.Stat, api.Errno) { return p.FS().Stat(p.cred(), path, false) }

// Access: may it be read (4), written (2), executed (1)?
func (p *Proc) Access(path string, how int) api.Errno { return p.FS().Access(p.cred(), path, how) }

// Statfs: blocks, free ones, inodes, free ones.
func (p *Proc) Statfs() (int, int, int, int) { return p.FS().Statfs() }
