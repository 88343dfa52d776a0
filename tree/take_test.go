package tree_test

import (
	"fmt"
	"testing"

	"tinsel/api"
	"tinsel/tree"
)

// P6.4

func TestRmdir(t *testing.T) {
	f := small(t)
	blocks, inodes := spare(f)
	f.Clock(9)
	good(t, "Rmdir", f.Rmdir(root, "/a/b/c"))
	leadsNowhere(t, f, root, "/a/b/c", api.ENOENT)
	d := stat(t, f, "/a/b")
	same(t, "D", d, api.Stat{Ino: ab, Links: 2, Size: 96, Blocks: 2, Mode: api.TypeDir | 0o755, Mtime: 9, Ctime: 9})
	same(t, "D's entries", names(t, f, "/a/b"), fmt.Sprintf(".=%d ..=%d", ab, a))
	room(t, "Rmdir", f, blocks+1, inodes+1)
	if _, e := f.Info(abc); e != api.ENOENT {
		t.Errorf("the inode is in use: %v", e)
	}
	good(t, "with a slash", f.Rmdir(root, "/a/b/"))
	room(t, "Rmdir", f, blocks+3, inodes+2)
	same(t, "links", stat(t, f, "/a").Links, 2)
	sound(t, "Rmdir", f)
}

func TestRmdirRefuses(t *testing.T) {
	f := small(t)
	symlink(t, f, "a/b/c", "/l")
	symlink(t, f, "a", "/la")
	symlink(t, f, "x", "/x")
	symlink(t, f, "no", "/gone")
	for p, want := range map[string]api.Errno{
		"/": api.EBUSY, "//": api.EBUSY, ".": api.EINVAL, "/.": api.EINVAL, "./": api.EINVAL, "/a/b/c/.": api.EINVAL, "/a/b/c/./": api.EINVAL,
		"..": api.ENOTEMPTY, "/..": api.ENOTEMPTY, "/a/b/c/..": api.ENOTEMPTY, "/a/../": api.ENOTEMPTY,
		"/no": api.ENOENT, "/no/": api.ENOENT, "/no/x": api.ENOENT, "/no/.": api.ENOENT, "/no/..": api.ENOENT, "": api.ENOENT, letters(28): api.ENAMETOOLONG, "\x00": api.EINVAL,
		"/f": api.ENOTDIR, "/f/": api.ENOTDIR, "/f/.": api.ENOTDIR, "/f/x": api.ENOTDIR, "/l": api.ENOTDIR, "/l/": api.ENOTDIR, "/gone": api.ENOTDIR, "/gone/": api.ENOTDIR, "/x/": api.ENOTDIR, "/x/y": api.ELOOP,
		"/a": api.ENOTEMPTY, "/a/": api.ENOTEMPTY, "/la/b": api.ENOTEMPTY,
	} {
		refused(t, "Rmdir "+brief(p), f, want, func() api.Errno { return f.Rmdir(root, p) })
	}
	refused(t, "a file in it", f, api.ENOTEMPTY, func() api.Errno {
		good(t, "Rmdir", f.Copy().Rmdir(root, "/a/b/c"))
		return f.Rmdir(root, "/a/b")
	})
	good(t, "through a link", f.Rmdir(root, "/la/b/c"))
	good(t, "an empty one with free slots", f.Rmdir(root, "/a/b"))
	sound(t, "Rmdir", f)
}

func TestTakeDenied(t *testing.T) {
	f := small(t)
	both := func(what, p string, rmdir, unlink api.Errno, c api.Cred) {
		t.Helper()
		refused(t, "Rmdir: "+what, f, rmdir, func() api.Errno { return f.Rmdir(c, p) })
		refused(t, "Unlink: "+what, f, unlink, func() api.Errno { return f.Unlink(c, p) })
	}
	chmod(t, f, "/a/b", 0o776)
	both("not searched", "/a/b/c", api.EACCES, api.EACCES, ann)
	both("not searched, a dot", "/a/b/.", api.EACCES, api.EACCES, ann)
	both("not searched, missing", "/a/b/no", api.EACCES, api.EACCES, ann)
	chmod(t, f, "/a/b", 0o775)
	both("not written", "/a/b/c", api.EACCES, api.EACCES, ann)
	both("not written, missing", "/a/b/no", api.ENOENT, api.ENOENT, ann)
	both("not written, a dot", "/a/b/.", api.EINVAL, api.EISDIR, ann)
	both("not written, dots", "/a/b/..", api.ENOTEMPTY, api.EISDIR, ann)
	both("not written, a file", "/f", api.EACCES, api.EACCES, ann)
	both("not written, a file and a slash", "/f/", api.EACCES, api.EACCES, ann)
	both("not written, not empty", "/a", api.EACCES, api.EACCES, ann)
	chmod(t, f, "/a/b", 0o773)
	chmod(t, f, "/a/b/c", 0) // its own bits are no matter
	good(t, "Rmdir", f.Rmdir(ann, "/a/b/c"))
	chmod(t, f, "/a", 0)
	chmod(t, f, "/a/b", 0)
	good(t, "root", f.Rmdir(root, "/a/b"))
	good(t, "root", f.Unlink(root, "/a/f"))
	sound(t, "denied", f)
}

// sticky: a directory /s of that owner that all may write, with /s/dir, /s/file of ann's.
func sticky(t *testing.T, owner api.Cred) *tree.FS {
	t.Helper()
	f := made(t, 30, 20)
	mkdir(t, f, "/s", "/s/dir", "/s/dir2")
	file(t, f, "/s/file", "")
	file(t, f, "/s/file2", "")
	for _, p := range []string{"/s/dir", "/s/file"} {
		chown(t, f, p, ann)
	}
	chown(t, f, "/s", owner)
	chmod(t, f, "/s", 0o1777)
	return f
}

func TestSticky(t *testing.T) {
	other := api.Cred{Uid: 9, Gid: 70}
	for _, v := range []struct {
		what       string
		owner, who api.Cred
		want       api.Errno
	}{
		{"root", other, root, api.OK}, {"the file's owner", other, ann, api.OK}, {"the directory's owner", bob, bob, api.OK}, {"another", other, bob, api.EPERM}, {"another one of its group", bob, other, api.EPERM},
	} {
		for _, bits := range []api.Mode{0o1777, 0o777} {
			f := sticky(t, v.owner)
			chmod(t, f, "/s", bits)
			want := v.want
			if bits == 0o777 {
				want = api.OK
			}
			c := f.Copy()
			is(t, v.what+": Rmdir", f.Rmdir(v.who, "/s/dir"), want)
			is(t, v.what+": Unlink", f.Unlink(v.who, "/s/file"), want)
			is(t, v.what+": Rename", c.Rename(v.who, "/s/file", "/s/new"), want)
			is(t, v.what+": Rename", c.Rename(v.who, "/s/dir", "/s/new2"), want)
			sound(t, v.what, f)
			sound(t, v.what, c)
		}
	}
	f := sticky(t, other)
	refused(t, "EPERM ahead of ENOTDIR", f, api.EPERM, func() api.Errno { return f.Rmdir(bob, "/s/file") })
	refused(t, "EPERM ahead of EISDIR", f, api.EPERM, func() api.Errno { return f.Unlink(bob, "/s/dir") })
	refused(t, "EPERM ahead of the slash", f, api.EPERM, func() api.Errno { return f.Unlink(bob, "/s/file/") })
	mkdir(t, f, "/s/dir/in")
	refused(t, "EPERM ahead of ENOTEMPTY", f, api.EPERM, func() api.Errno { return f.Rmdir(bob, "/s/dir") })
	chmod(t, f, "/s", 0o1775)
	refused(t, "EACCES ahead of EPERM", f, api.EACCES, func() api.Errno { return f.Unlink(bob, "/s/file") })
	refused(t, "EACCES ahead of EPERM", f, api.EACCES, func() api.Errno { return f.Rmdir(bob, "/s/dir") })
}

// P6.7

func TestUnlink(t *testing.T) {
	f := small(t)
	good(t, "Link", f.Link(root, "/a/f", "/a/b/g"))
	symlink(t, f, "a/f", "/l")
	blocks, inodes := spare(f)
	f.Clock(9)
	good(t, "Unlink", f.Unlink(root, "/a/f"))
	leadsNowhere(t, f, root, "/a/f", api.ENOENT)
	same(t, "the other name", stat(t, f, "/a/b/g"), api.Stat{Ino: af, Links: 1, Size: 4, Blocks: 1, Mode: api.TypeReg | 0o644, Ctime: 9})
	d := stat(t, f, "/a")
	same(t, "D", []int64{d.Mtime, d.Ctime, int64(d.Links), int64(d.Size)}, []int64{9, 9, 3, 128})
	room(t, "one name less", f, blocks, inodes)
	good(t, "Unlink", f.Unlink(root, "/a/b/g"))
	room(t, "the last one", f, blocks+1, inodes+1)
	good(t, "a link", f.Unlink(root, "/l"))
	room(t, "a link", f, blocks+2, inodes+2)
	sound(t, "Unlink", f)
}

func TestUnlinkLinkItself(t *testing.T) {
	f := small(t)
	symlink(t, f, "a", "/l")
	symlink(t, f, "x", "/x")
	symlink(t, f, "f", "/lf")
	for _, p := range []string{"/l/", "/x/", "/lf/"} {
		refused(t, "Unlink "+p, f, api.ENOTDIR, func() api.Errno { return f.Unlink(root, p) })
	}
	for _, p := range []string{"/l", "/x", "/lf"} {
		good(t, "Unlink "+p, f.Unlink(root, p))
		leadsNowhere(t, f, root, p, api.ENOENT)
	}
	leads(t, f, root, "/a", a)
	leads(t, f, root, "/f", rf)
}

func TestUnlinkRefuses(t *testing.T) {
	f := small(t)
	symlink(t, f, "x", "/x")
	for p, want := range map[string]api.Errno{
		"/": api.EISDIR, "//": api.EISDIR, ".": api.EISDIR, "..": api.EISDIR, "/.": api.EISDIR, "/a/.": api.EISDIR, "/a/b/..": api.EISDIR, "/a/../": api.EISDIR,
		"/no": api.ENOENT, "/no/": api.ENOENT, "/no/x": api.ENOENT, "/no/.": api.ENOENT, "": api.ENOENT, letters(28): api.ENAMETOOLONG, "\x00": api.EINVAL,
		"/a": api.EISDIR, "/a/": api.EISDIR, "/a/b/c": api.EISDIR, "/f/": api.ENOTDIR, "/a/f//": api.ENOTDIR, "/f/x": api.ENOTDIR, "/f/.": api.ENOTDIR, "/x/y": api.ELOOP,
	} {
		refused(t, "Unlink "+brief(p), f, want, func() api.Errno { return f.Unlink(root, p) })
	}
}

// What is held stays, without a name, till it is released.
func TestTakeHeld(t *testing.T) {
	f := small(t)
	blocks, inodes := spare(f)
	ino, e := f.Open(root, "/a/f", api.Read|api.Write, 0)
	good(t, "Open", e)
	good(t, "Hold", f.Hold(ino))
	d, e := f.Dir(root, "/a/b/c")
	good(t, "Dir", e)
	f.Clock(9)
	good(t, "Unlink", f.Unlink(root, "/a/f"))
	good(t, "Rmdir", f.Rmdir(root, "/a/b/c"))
	same(t, "the file", info(t, f, ino), api.Stat{Ino: af, Links: 0, Size: 4, Blocks: 1, Mode: api.TypeReg | 0o644, Ctime: 9})
	same(t, "the directory", info(t, f, d), api.Stat{Ino: abc, Links: 0, Size: 0, Blocks: 0, Mode: api.TypeDir | 0o755, Mtime: 9, Ctime: 9})
	l, e := f.Entries(d)
	same(t, "its entries", fmt.Sprint(len(l), int(e)), "0 0")
	room(t, "held", f, blocks+1, inodes)
	sound(t, "held", f)
	write(t, f, ino, 4, " and more")
	b, e := f.ReadAt(ino, 0, 99)
	same(t, "ReadAt", fmt.Sprint(string(b), int(e)), "in a and more0")
	good(t, "Release", f.Release(ino))
	room(t, "held once", f, blocks+1, inodes)
	good(t, "Release", f.Release(ino))
	room(t, "let go", f, blocks+2, inodes+1)
	good(t, "Release", f.Release(d))
	room(t, "let go", f, blocks+2, inodes+2)
	for _, x := range []int{ino, d} {
		is(t, "Release", f.Release(x), api.ENOENT)
		is(t, "Hold", f.Hold(x), api.ENOENT)
	}
	sound(t, "let go", f)
	same(t, "the lowest number is taken again", file(t, f, "/new", ""), abc)
}

// P6.17: there and back.
func TestThereAndBack(t *testing.T) {
	f := small(t)
	symlink(t, f, "a", "/l")
	was := []string{names(t, f, "/"), names(t, f, "/a"), names(t, f, "/a/b")}
	back := func(what string, there, back api.Errno) {
		t.Helper()
		is(t, what, there, api.OK)
		is(t, what+" back", back, api.OK)
		same(t, what, []string{names(t, f, "/"), names(t, f, "/a"), names(t, f, "/a/b")}, was)
		sound(t, what, f)
	}
	for _, d := range []string{"", "/a", "/a/b", "/l", "/l/b"} {
		back("Mkdir", f.Mkdir(root, d+"/x", 0o755), f.Rmdir(root, d+"/x"))
		back("Symlink", f.Symlink(root, "f", d+"/x"), f.Unlink(root, d+"/x"))
		back("Link", f.Link(root, "/f", d+"/x"), f.Unlink(root, d+"/x"))
		back("Link of a link", f.Link(root, "/l", d+"/x"), f.Unlink(root, d+"/x"))
	}
	// A slot that went is taken again, so that a name comes back to where it was.
	for _, v := range [][2]string{{"/f", "/a/b/x"}, {"/a/f", "/x"}, {"/a/b/c", "/x"}, {"/a/b/c", "/a/x"}, {"/l", "/a/x"}, {"/a/b", "/b2"}} {
		back("Rename", f.Rename(root, v[0], v[1]), f.Rename(root, v[1], v[0]))
	}
	same(t, "links", []int{stat(t, f, "/").Links, stat(t, f, "/a").Links, stat(t, f, "/a/b").Links}, []int{3, 3, 3})
}
