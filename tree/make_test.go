package tree_test

import (
	"fmt"
	"strings"
	"testing"

	"tinsel/api"
	"tinsel/tree"
)

// noneMade: all calls that make a name at p answer this error, and nothing has changed.
func noneMade(t *testing.T, f *tree.FS, c api.Cred, p string, want api.Errno) {
	t.Helper()
	refused(t, "Mkdir "+brief(p), f, want, func() api.Errno { return f.Mkdir(c, p, 0o755) })
	refused(t, "Symlink "+brief(p), f, want, func() api.Errno { return f.Symlink(c, "f", p) })
	refused(t, "Link "+brief(p), f, want, func() api.Errno { return f.Link(c, "/f", p) })
}

// P6.3

func TestMkdir(t *testing.T) {
	f := made(t, 40, 20)
	f.Clock(5)
	good(t, "Mkdir", f.Mkdir(masked(root, 0o022), "/a", 0o777))
	same(t, "/a", stat(t, f, "/a"), api.Stat{Ino: 2, Links: 2, Size: 64, Blocks: 1, Mode: api.TypeDir | 0o755, Atime: 5, Mtime: 5, Ctime: 5})
	same(t, "/", stat(t, f, "/"), api.Stat{Ino: 1, Links: 3, Size: 96, Blocks: 2, Mode: api.TypeDir | 0o755, Mtime: 5, Ctime: 5})
	same(t, "its entries", names(t, f, "/a"), ".=2 ..=1")
	same(t, "the root's", names(t, f, "/"), ".=1 ..=1 a=2")
	f.Clock(6)
	chmod(t, f, "/a", 0o777)
	good(t, "Mkdir", f.Mkdir(in(bob, 2), "b", 0o700))
	same(t, "/a/b", stat(t, f, "/a/b"), api.Stat{Ino: 3, Links: 2, Uid: 8, Gid: 80, Size: 64, Blocks: 1, Mode: api.TypeDir | 0o700, Atime: 6, Mtime: 6, Ctime: 6})
	same(t, "links", []int{stat(t, f, "/").Links, stat(t, f, "/a").Links}, []int{3, 3})
	good(t, "Mkdir with a slash", f.Mkdir(root, "/a/b/c/", 0o755))
	good(t, "Mkdir with slashes", f.Mkdir(root, "//a/./b/../d///", 0o755))
	same(t, "entries", names(t, f, "/a"), ".=2 ..=1 b=3 d=5")
	same(t, "entries", names(t, f, "/a/b"), ".=3 ..=2 c=4")
	sound(t, "Mkdir", f)
}

// The permission bits of mode, whatever else it has, without umask's.
func TestMkdirModes(t *testing.T) {
	for _, v := range []struct {
		mode  api.Mode
		umask int
		want  api.Mode
	}{
		{0o777, 0, 0o777}, {0o777, 0o022, 0o755}, {0o7777, 0, 0o7777}, {0o7777, 0o7022, 0o755}, {0o7777, 0o777, 0o7000}, {0, 0, 0},
		{-1, 0o027, 0o7750}, {-1, -1, 0}, {0o755, -1, 0}, {api.TypeReg | 0o644, 0, 0o644}, {api.TypeMask, 0, 0}, {0o777, 1 << 40, 0o777}, {0o666, 0o111, 0o666},
	} {
		f := made(t, 9, 9)
		good(t, "Mkdir", f.Mkdir(masked(root, v.umask), "/d", v.mode))
		same(t, fmt.Sprintf("Mkdir %o, %o", v.mode, v.umask), fmt.Sprintf("%o", stat(t, f, "/d").Mode), fmt.Sprintf("%o", api.TypeDir|v.want))
		ino, e := f.Open(masked(root, v.umask), "/f", api.Read|api.Create, v.mode)
		good(t, "Open", e)
		same(t, fmt.Sprintf("Open %o, %o", v.mode, v.umask), fmt.Sprintf("%o", info(t, f, ino).Mode), fmt.Sprintf("%o", api.TypeReg|v.want))
		good(t, "Symlink", f.Symlink(masked(root, v.umask), "x", "/l"))
		same(t, "Symlink", fmt.Sprintf("%o", stat(t, f, "/l").Mode), fmt.Sprintf("%o", api.TypeLink|0o777))
	}
}

// SetGid of D gives its group to all that is new in it, and itself to directories.
func TestNewInSetGid(t *testing.T) {
	f := made(t, 40, 20)
	mkdir(t, f, "/d", "/plain")
	good(t, "Chown", f.Chown(root, "/d", 3, 33, true))
	good(t, "Chown", f.Chown(root, "/plain", 3, 33, true))
	chmod(t, f, "/d", 0o2777)
	chmod(t, f, "/plain", 0o5777)
	c := masked(ann, 0o2022)
	for _, d := range []string{"/d", "/plain"} {
		good(t, "Mkdir", f.Mkdir(c, d+"/d", 0o777))
		good(t, "Symlink", f.Symlink(c, "x", d+"/l"))
		ino, e := f.Open(c, d+"/f", api.Write|api.Create, 0o777)
		good(t, "Open", e)
		good(t, "Release", f.Release(ino))
	}
	for p, want := range map[string]string{
		"/d/d": "7 33 42755", "/d/l": "7 33 120777", "/d/f": "7 33 100755",
		"/plain/d": "7 70 40755", "/plain/l": "7 70 120777", "/plain/f": "7 70 100755",
	} {
		st := stat(t, f, p)
		same(t, p, fmt.Sprintf("%d %d %o", st.Uid, st.Gid, st.Mode), want)
	}
	good(t, "Mkdir", f.Mkdir(ann, "/d/d/deep", 0o700))
	same(t, "and so on", fmt.Sprintf("%d %o", stat(t, f, "/d/d/deep").Gid, stat(t, f, "/d/d/deep").Mode), "33 42700")
}

func TestMkdirRefuses(t *testing.T) {
	f := small(t)
	symlink(t, f, "a", "/l")
	symlink(t, f, "no", "/gone")
	symlink(t, f, "loop", "/loop")
	for _, p := range []string{"/", "//", ".", "..", "/.", "/..", "/a/.", "/a/..", "/a/./", "/a/../", "/a", "/a/", "/f", "/f/", "/l", "/l/", "/gone", "/gone/", "/loop", "/loop/", "/a/b/c"} {
		refused(t, "Mkdir "+p, f, api.EEXIST, func() api.Errno { return f.Mkdir(root, p, 0o755) })
		refused(t, "Mkdir "+p, f, api.EEXIST, func() api.Errno { return f.Mkdir(ann, p, 0o755) })
	}
	for p, want := range map[string]api.Errno{
		"": api.ENOENT, letters(28): api.ENAMETOOLONG, "/f/\x00": api.EINVAL, "/no/x": api.ENOENT, "/no/.": api.ENOENT, "/no/..": api.ENOENT, "/gone/x": api.ENOENT,
		"/f/x": api.ENOTDIR, "/f/.": api.ENOTDIR, "/f/..": api.ENOTDIR, "/a/f/x/": api.ENOTDIR, "/loop/x": api.ELOOP, "/loop/.": api.ELOOP,
	} {
		refused(t, "Mkdir "+brief(p), f, want, func() api.Errno { return f.Mkdir(root, p, 0o755) })
	}
	good(t, "through a link", f.Mkdir(root, "/l/new", 0o755))
	leads(t, f, root, "/a/new", inode(t, f, "/l/new"))
}

// What may not be searched, and what may not be written.
func TestMakeDenied(t *testing.T) {
	f := small(t)
	chmod(t, f, "/a/b", 0o776) // others may not search
	noneMade(t, f, ann, "/a/b/new", api.EACCES)
	noneMade(t, f, ann, "/a/b/c", api.EACCES)
	noneMade(t, f, ann, "/a/b/.", api.EACCES)
	noneMade(t, f, ann, "/a/b/..", api.EACCES)
	noneMade(t, f, ann, "/a/b/c/new", api.EACCES)
	noneMade(t, f, in(ann, ab), "new", api.EACCES)
	chmod(t, f, "/a/b", 0o775) // or not write
	noneMade(t, f, ann, "/a/b/new", api.EACCES)
	noneMade(t, f, ann, "/a/b/c", api.EEXIST)
	noneMade(t, f, ann, "/a/b/.", api.EEXIST)
	chmod(t, f, "/a/b", 0o773)
	good(t, "Mkdir", f.Mkdir(ann, "/a/b/new", 0o755))
	good(t, "Symlink", f.Symlink(ann, "x", "/a/b/l"))
	good(t, "Link", f.Link(ann, "/f", "/a/b/f"))
	chmod(t, f, "/a/b", 0)
	good(t, "root", f.Mkdir(root, "/a/b/root", 0o755))
	chmod(t, f, "/", 0) // a path without a name is searched by nobody
	for _, p := range []string{"/", "//"} {
		refused(t, "Mkdir "+p, f, api.EEXIST, func() api.Errno { return f.Mkdir(ann, p, 0o755) })
		refused(t, "Symlink "+p, f, api.EEXIST, func() api.Errno { return f.Symlink(ann, "x", p) })
		refused(t, "Link "+p, f, api.EEXIST, func() api.Errno { return f.Link(ann, "/", p) })
		refused(t, "Rmdir "+p, f, api.EBUSY, func() api.Errno { return f.Rmdir(ann, p) })
		refused(t, "Unlink "+p, f, api.EISDIR, func() api.Errno { return f.Unlink(ann, p) })
		refused(t, "Rename "+p, f, api.EBUSY, func() api.Errno { return f.Rename(ann, p, p) })
	}
	sound(t, "denied", f)
}

// No name can be made in a directory that is gone.
func TestMakeInGone(t *testing.T) {
	f := small(t)
	d, e := f.Dir(root, "/a/b/c")
	good(t, "Dir", e)
	good(t, "Rmdir", f.Rmdir(root, "/a/b/c"))
	for _, c := range []api.Cred{in(root, d), in(ann, d)} {
		noneMade(t, f, c, "x", api.ENOENT)
		noneMade(t, f, c, "./x", api.ENOENT)
		noneMade(t, f, c, "../x", api.ENOENT)
		noneMade(t, f, c, ".", api.EEXIST)
		noneMade(t, f, c, "..", api.EEXIST)
		noneMade(t, f, c, "x/y", api.ENOENT)
		refused(t, "Open", f, api.ENOENT, func() api.Errno { _, e := f.Open(c, "x", api.Write|api.Create, 0o644); return e })
		refused(t, "Open ..", f, api.ENOENT, func() api.Errno { _, e := f.Open(c, "..", api.Write|api.Create, 0o644); return e })
		refused(t, "Open ../", f, api.EISDIR, func() api.Errno { _, e := f.Open(c, "../", api.Write|api.Create, 0o644); return e })
		refused(t, "Open x/", f, api.EISDIR, func() api.Errno { _, e := f.Open(c, "x/", api.Write|api.Create, 0o644); return e })
		refused(t, "Rmdir", f, api.ENOENT, func() api.Errno { return f.Rmdir(c, "x") })
		refused(t, "Unlink", f, api.ENOENT, func() api.Errno { return f.Unlink(c, "x") })
		refused(t, "Rename from", f, api.ENOENT, func() api.Errno { return f.Rename(c, "x", "/x") })
		refused(t, "Rename to", f, api.ENOENT, func() api.Errno { return f.Rename(c, "/f", "x") })
		refused(t, "Rename to, with a slash", f, api.ENOENT, func() api.Errno { return f.Rename(c, "/f", "x/") })
	}
	good(t, "Chmod", f.Chmod(in(root, d), ".", 0o600))
	noneMade(t, f, in(ann, d), "x", api.EACCES)
}

// LinkMax directories' links.
func TestMkdirLinkMax(t *testing.T) {
	f := made(t, 100, 40)
	for k := range 14 {
		mkdir(t, f, fmt.Sprint("/d", k))
	}
	same(t, "links", stat(t, f, "/").Links, 16)
	refused(t, "one more", f, api.EMLINK, func() api.Errno { return f.Mkdir(root, "/one", 0o755) })
	refused(t, "one more, by ann", f, api.EACCES, func() api.Errno { return f.Mkdir(ann, "/one", 0o755) })
	refused(t, "one that is there", f, api.EEXIST, func() api.Errno { return f.Mkdir(root, "/d3", 0o755) })
	mkdir(t, f, "/d0/one")
	file(t, f, "/f", "") // files are no matter
	symlink(t, f, "x", "/l")
	good(t, "Rmdir", f.Rmdir(root, "/d7"))
	mkdir(t, f, "/one")
	refused(t, "one more", f, api.EMLINK, func() api.Errno { return f.Mkdir(root, "/two", 0o755) })
	sound(t, "LinkMax", f)
}

// EMLINK is told ahead of ENOSPC.
func TestMkdirLinkMaxNoRoom(t *testing.T) {
	f := made(t, 23, 16)
	for k := range 14 {
		mkdir(t, f, fmt.Sprint("/d", k))
	}
	room(t, "LinkMax", f, 0, 1) // 14 blocks of theirs, eight of the root's, and one that leads to two of these
	refused(t, "one more", f, api.EMLINK, func() api.Errno { return f.Mkdir(root, "/one", 0o755) })
}

// No inode is left.
func TestMakeNoInode(t *testing.T) {
	f := made(t, 20, 2)
	file(t, f, "/f", "")
	refused(t, "Mkdir", f, api.ENOSPC, func() api.Errno { return f.Mkdir(root, "/d", 0o755) })
	refused(t, "Symlink", f, api.ENOSPC, func() api.Errno { return f.Symlink(root, "x", "/l") })
	refused(t, "Open", f, api.ENOSPC, func() api.Errno { _, e := f.Open(root, "/g", api.Write|api.Create, 0o644); return e })
	good(t, "Link", f.Link(root, "/f", "/g")) // takes none
	refused(t, "by ann", f, api.EACCES, func() api.Errno { return f.Mkdir(ann, "/d", 0o755) })
	refused(t, "there", f, api.EEXIST, func() api.Errno { return f.Mkdir(root, "/g", 0o755) })
	good(t, "Unlink", f.Unlink(root, "/f"))
	good(t, "Unlink", f.Unlink(root, "/g"))
	good(t, "Mkdir", f.Mkdir(root, "/d", 0o755))
	sound(t, "no inode", f)
}

// full: a root with that many names, a file /f that has taken all blocks but left.
func full(t *testing.T, more, left int) *tree.FS {
	t.Helper()
	f := made(t, 8, 20)
	ino := file(t, f, "/f", "")
	for k := range more {
		good(t, "Link", f.Link(root, "/f", fmt.Sprint("/n", k)))
	}
	fill(t, f, ino, left)
	return f
}

// No block for the new directory's entries, none for D's.
func TestMakeNoBlock(t *testing.T) {
	for _, more := range []int{0, 1} { // with a free place in D's last block, and without
		for left := range 7 {
			if more == 1 && left > 5 {
				continue
			}
			f := full(t, more, left)
			what := fmt.Sprintf("%d names, %d blocks left", 1+more, left)
			needs := more // a block of D's
			ofD := func(own int) api.Errno {
				if own+needs > left {
					return api.ENOSPC
				}
				return api.OK
			}
			try := func(call string, own int, do func(*tree.FS) api.Errno) {
				g := f.Copy()
				if want := ofD(own); want != api.OK {
					refused(t, what+": "+call, g, want, func() api.Errno { return do(g) })
					return
				}
				is(t, what+": "+call, do(g), api.OK)
				now, _ := spare(g)
				same(t, what+": left behind "+call, now, left-own-needs)
				sound(t, what+": "+call, g)
			}
			try("Mkdir", 1, func(g *tree.FS) api.Errno { return g.Mkdir(root, "/d", 0o755) })
			try("Link", 0, func(g *tree.FS) api.Errno { return g.Link(root, "/f", "/d") })
			try("Open", 0, func(g *tree.FS) api.Errno { _, e := g.Open(root, "/d", api.Write|api.Create, 0o644); return e })
			for _, n := range []int{1, 64, 65, 128, 129, 192, 193, 255} {
				target := strings.Repeat("./", 127)[:n-1] + "a"
				try(fmt.Sprint("Symlink of ", n), (n+63)/64, func(g *tree.FS) api.Errno { return g.Symlink(root, target, "/d") })
			}
		}
	}
}

// The block for a new directory's own entries is taken ahead of the one for D's; a link's content likewise.
func TestMakeOrderOfBlocks(t *testing.T) {
	f := full(t, 1, 2)
	was, _ := f.Owned(1)
	good(t, "Mkdir", f.Mkdir(root, "/d", 0o755))
	own, _ := f.Owned(inode(t, f, "/d"))
	now, _ := f.Owned(1)
	if len(own) != 1 || len(now) != len(was)+1 || own[0] >= now[len(now)-1] {
		t.Errorf("Mkdir: its own %v, the root's %v, were %v", own, now, was)
	}
	f = full(t, 1, 3)
	good(t, "Symlink", f.Symlink(root, letters(20)+"/"+letters(20)+"/"+letters(27), "/l"))
	own, _ = f.Owned(inode(t, f, "/l"))
	now, _ = f.Owned(1)
	if len(own) != 2 || own[1] >= now[len(now)-1] {
		t.Errorf("Symlink: its own %v, the root's %v", own, now)
	}
}

// A name that went leaves a slot that the next one takes.
func TestMakeTakesFreeSlot(t *testing.T) {
	f := full(t, 1, 1)
	good(t, "Unlink", f.Unlink(root, "/n0"))
	good(t, "Mkdir", f.Mkdir(root, "/d", 0o755))
	same(t, "entries", names(t, f, "/"), ".=1 ..=1 f=2 d=3")
	room(t, "Mkdir", f, 0, 17)
}

// A directory holds 556 slots, and no more.
func TestMakeFullDirectory(t *testing.T) {
	f := made(t, 400, 60)
	mkdir(t, f, "/d")
	for k := range 554 {
		if k%15 == 0 { // beside its own name a file can have 15 others
			file(t, f, fmt.Sprint("/f", k/15), "")
		}
		good(t, "Link", f.Link(root, fmt.Sprint("/f", k/15), fmt.Sprint("/d/", k)))
	}
	same(t, "size", stat(t, f, "/d").Size, 556*32)
	refused(t, "Mkdir", f, api.ENOSPC, func() api.Errno { return f.Mkdir(root, "/d/one", 0o755) })
	refused(t, "Symlink", f, api.ENOSPC, func() api.Errno { return f.Symlink(root, "x", "/d/one") })
	refused(t, "Link", f, api.ENOSPC, func() api.Errno { return f.Link(root, "/f36", "/d/one") })
	refused(t, "Open", f, api.ENOSPC, func() api.Errno { _, e := f.Open(root, "/d/one", api.Write|api.Create, 0o644); return e })
	refused(t, "Rename", f, api.ENOSPC, func() api.Errno { return f.Rename(root, "/f1", "/d/one") })
	refused(t, "Rename within", f, api.ENOSPC, func() api.Errno { return f.Rename(root, "/d/5", "/d/one") })
	good(t, "Rename onto", f.Rename(root, "/f34", "/d/5"))
	good(t, "Unlink", f.Unlink(root, "/d/5"))
	good(t, "Mkdir", f.Mkdir(root, "/d/one", 0o755))
	sound(t, "full", f)
}

// P6.5

func TestSymlink(t *testing.T) {
	f := small(t)
	f.Clock(9)
	chmod(t, f, "/a", 0o777)
	good(t, "Symlink", f.Symlink(masked(bob, 0o777), "no//such/", "/a/l"))
	same(t, "/a/l", stat(t, f, "/a/l"), api.Stat{Ino: 7, Links: 1, Uid: 8, Gid: 80, Size: 9, Blocks: 1, Mode: api.TypeLink | 0o777, Atime: 9, Mtime: 9, Ctime: 9})
	same(t, "/a", []int64{stat(t, f, "/a").Mtime, stat(t, f, "/a").Ctime}, []int64{9, 9})
	same(t, "/a's links", stat(t, f, "/a").Links, 3)
	s, e := f.Readlink(root, "/a/l")
	same(t, "Readlink", fmt.Sprint(s, int(e)), "no//such/0")
	sound(t, "Symlink", f)
}

func TestSymlinkRefuses(t *testing.T) {
	f := small(t)
	symlink(t, f, "a", "/l")
	symlink(t, f, "no", "/gone")
	for target, want := range map[string]api.Errno{
		"": api.ENOENT, letters(28): api.ENAMETOOLONG, "a/" + letters(28): api.ENAMETOOLONG, strings.Repeat("a/", 128): api.ENAMETOOLONG, "\x00": api.EINVAL, "a/\x00b": api.EINVAL,
	} {
		for _, p := range []string{"/new", "", "/f", "/f/x", letters(28), "/no/x", "\x00", "/"} { // the target's errors come first
			refused(t, fmt.Sprintf("Symlink %q, %q", target, p), f, want, func() api.Errno { return f.Symlink(root, target, p) })
		}
	}
	for p, want := range map[string]api.Errno{
		"": api.ENOENT, letters(28): api.ENAMETOOLONG, "\x00": api.EINVAL, "/f/x": api.ENOTDIR, "/no/x": api.ENOENT,
		"/": api.EEXIST, ".": api.EEXIST, "..": api.EEXIST, "/a/.": api.EEXIST, "/a/../": api.EEXIST, "/a": api.EEXIST, "/a/": api.EEXIST, "/f": api.EEXIST, "/f/": api.EEXIST,
		"/l": api.EEXIST, "/l/": api.EEXIST, "/gone": api.EEXIST, "/gone/": api.EEXIST, "/new/": api.ENOENT, "/a/new//": api.ENOENT, "/l/new/": api.ENOENT,
	} {
		refused(t, fmt.Sprintf("Symlink to %q", p), f, want, func() api.Errno { return f.Symlink(root, "x", p) })
	}
	refused(t, "a slash, by ann", f, api.ENOENT, func() api.Errno { return f.Symlink(ann, "x", "/new/") })
	refused(t, "by ann", f, api.EACCES, func() api.Errno { return f.Symlink(ann, "x", "/new") })
}

// P6.6

func TestLink(t *testing.T) {
	f := small(t)
	f.Clock(9)
	good(t, "Link", f.Link(root, "/a/f", "/a/b/g"))
	same(t, "the file", stat(t, f, "/a/b/g"), api.Stat{Ino: af, Links: 2, Size: 4, Blocks: 1, Mode: api.TypeReg | 0o644, Ctime: 9})
	same(t, "D", names(t, f, "/a/b"), fmt.Sprintf(".=%d ..=%d c=%d g=%d", ab, a, abc, af))
	d := stat(t, f, "/a/b")
	same(t, "D", []int64{d.Atime, d.Mtime, d.Ctime, int64(d.Links)}, []int64{0, 9, 9, 3})
	symlink(t, f, "f", "/l")
	symlink(t, f, "a", "/la")
	symlink(t, f, "no", "/gone")
	for from, to := range map[string]string{"/l": "/l2", "/gone": "/gone2", "/la": "/la2", "/la/f": "/la/f2"} {
		good(t, "Link "+from, f.Link(root, from, to)) // links themselves
		same(t, to, inode(t, f, to), inode(t, f, from))
	}
	s, _ := f.Readlink(root, "/l2")
	same(t, "Readlink", s, "f")
	good(t, "a file that may not be read", f.Link(root, "/f", "/a/secret"))
	sound(t, "Link", f)
}

func TestLinkRefuses(t *testing.T) {
	f := small(t)
	symlink(t, f, "a", "/l")
	symlink(t, f, "f", "/lf")
	symlink(t, f, "no", "/gone")
	symlink(t, f, "x", "/x")
	for from, want := range map[string]api.Errno{
		"": api.ENOENT, letters(28): api.ENAMETOOLONG, "\x00": api.EINVAL, "/no": api.ENOENT, "/f/x": api.ENOTDIR, "/f/": api.ENOTDIR, "/lf/": api.ENOTDIR, "/gone/": api.ENOENT, "/x/": api.ELOOP,
	} {
		for _, to := range []string{"/new", "/f", "", "/no/x", letters(28), "/", "/new/"} { // from's errors come first
			refused(t, fmt.Sprintf("Link %q, %q", from, to), f, want, func() api.Errno { return f.Link(root, from, to) })
		}
	}
	for _, from := range []string{"/f", "/a", "/l", "/l/"} {
		for to, want := range map[string]api.Errno{
			"": api.ENOENT, letters(28): api.ENAMETOOLONG, "\x00": api.EINVAL, "/f/x": api.ENOTDIR, "/no/x": api.ENOENT, "/x/y": api.ELOOP,
			"/": api.EEXIST, ".": api.EEXIST, "..": api.EEXIST, "/a": api.EEXIST, "/a/": api.EEXIST, "/f": api.EEXIST, "/f/": api.EEXIST, "/l": api.EEXIST, "/l/": api.EEXIST, "/gone": api.EEXIST, "/x": api.EEXIST,
			"/new/": api.ENOENT, "/l/new/": api.ENOENT,
		} {
			refused(t, fmt.Sprintf("Link %q, %q", from, to), f, want, func() api.Errno { return f.Link(root, from, to) })
		}
	}
	for _, from := range []string{"/", "/a", "/a/", "/l/", ".", "..", "/a/b/c"} {
		refused(t, "Link of the directory "+from, f, api.EPERM, func() api.Errno { return f.Link(root, from, "/new") })
		refused(t, "Link of the directory "+from+" by ann", f, api.EACCES, func() api.Errno { return f.Link(ann, from, "/new") })
	}
	is(t, "Link", f.Link(root, "/l", "/new"), api.OK)
}

func TestLinkLinkMax(t *testing.T) {
	f := made(t, 60, 20)
	ino := file(t, f, "/f", "")
	symlink(t, f, "f", "/l")
	for k := range 15 {
		good(t, "Link", f.Link(root, "/f", fmt.Sprint("/f", k)))
		good(t, "Link", f.Link(root, "/l", fmt.Sprint("/l", k)))
	}
	same(t, "links", []int{stat(t, f, "/f").Links, stat(t, f, "/l").Links}, []int{16, 16})
	refused(t, "one more", f, api.EMLINK, func() api.Errno { return f.Link(root, "/f3", "/one") })
	refused(t, "one more link", f, api.EMLINK, func() api.Errno { return f.Link(root, "/l3", "/one") })
	refused(t, "one more, by ann", f, api.EACCES, func() api.Errno { return f.Link(ann, "/f3", "/one") })
	for k := 0; ; k++ { // EMLINK is told ahead of ENOSPC
		if n, e := f.WriteAt(ino, k*64, []byte("x")); n == 0 || e != api.OK {
			break
		}
	}
	refused(t, "one more, no room", f, api.EMLINK, func() api.Errno { return f.Link(root, "/f3", "/one") })
	good(t, "Truncate", f.Truncate(root, "/f", 0))
	good(t, "Unlink", f.Unlink(root, "/f3"))
	good(t, "Link", f.Link(root, "/f4", "/one"))
	sound(t, "LinkMax", f)
}
