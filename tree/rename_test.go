package tree_test

import (
	"fmt"
	"testing"

	"tinsel/api"
	"tinsel/tree"
)

// moved: a Rename that is OK, and what follows from it (P6.16).
func moved(t *testing.T, f *tree.FS, c api.Cred, from, to string) {
	t.Helper()
	ino := inode(t, f, from)
	if e := f.Rename(c, from, to); e != api.OK {
		t.Fatalf("Rename %q, %q: %d (%v)", from, to, int(e), e)
	}
	leadsNowhere(t, f, root, from, api.ENOENT)
	same(t, fmt.Sprintf("Rename %q, %q", from, to), inode(t, f, to), ino)
	sound(t, fmt.Sprintf("Rename %q, %q", from, to), f)
}

// stays: a Rename that answers an error, and changes nothing.
func stays(t *testing.T, f *tree.FS, c api.Cred, from, to string, want api.Errno) {
	t.Helper()
	refused(t, fmt.Sprintf("Rename %q, %q", from, to), f, want, func() api.Errno { return f.Rename(c, from, to) })
}

// P6.8

func TestRenameWithin(t *testing.T) {
	f := small(t)
	f.Clock(9)
	moved(t, f, root, "/a/f", "/a/g")
	same(t, "it", stat(t, f, "/a/g"), api.Stat{Ino: af, Links: 1, Size: 4, Blocks: 1, Mode: api.TypeReg | 0o644, Ctime: 9})
	same(t, "D: the new name first, then the old one goes", names(t, f, "/a"), fmt.Sprintf(".=%d ..=%d b=%d g=%d", a, top, ab, af))
	same(t, "D", stat(t, f, "/a"), api.Stat{Ino: a, Links: 3, Size: 160, Blocks: 3, Mode: api.TypeDir | 0o755, Mtime: 9, Ctime: 9})
	f.Clock(10)
	moved(t, f, root, "/a/b", "/a/d")
	same(t, "a directory", stat(t, f, "/a/d"), api.Stat{Ino: ab, Links: 3, Size: 96, Blocks: 2, Mode: api.TypeDir | 0o755, Ctime: 10})
	same(t, "D: in the free slot", names(t, f, "/a"), fmt.Sprintf(".=%d ..=%d d=%d g=%d", a, top, ab, af))
	same(t, "D's links", stat(t, f, "/a").Links, 3)
	leads(t, f, root, "/a/d/c/../..", a)
}

func TestRenameBetween(t *testing.T) {
	f := small(t)
	f.Clock(9)
	moved(t, f, root, "/a/f", "/a/b/c/g")
	same(t, "a file", stat(t, f, "/a/b/c/g"), api.Stat{Ino: af, Links: 1, Size: 4, Blocks: 1, Mode: api.TypeReg | 0o644, Ctime: 9})
	for _, p := range []string{"/a", "/a/b/c"} {
		st := stat(t, f, p)
		same(t, p, []int64{st.Mtime, st.Ctime, st.Atime}, []int64{9, 9, 0})
	}
	same(t, "links", []int{stat(t, f, "/a").Links, stat(t, f, "/a/b/c").Links}, []int{3, 2})
	f.Clock(10)
	moved(t, f, root, "/a/b", "/d")
	same(t, "a directory", stat(t, f, "/d"), api.Stat{Ino: ab, Links: 3, Size: 96, Blocks: 2, Mode: api.TypeDir | 0o755, Mtime: 10, Ctime: 10})
	same(t, "its entries", names(t, f, "/d"), fmt.Sprintf(".=%d ..=%d c=%d", ab, top, abc))
	same(t, "links", []int{stat(t, f, "/").Links, stat(t, f, "/a").Links}, []int{4, 2})
	leads(t, f, root, "/d/..", top)
	leads(t, f, root, "/d/c/g", af)
	moved(t, f, root, "/a", "/d/c/a")
	leads(t, f, root, "/d/c/a/../../..", top)
	symlink(t, f, "no", "/l")
	moved(t, f, root, "/l", "/d/l")
	s, e := f.Readlink(root, "/d/l")
	same(t, "a link", fmt.Sprint(s, int(e)), "no0")
}

func TestRenameOntoFile(t *testing.T) {
	f := small(t)
	good(t, "Link", f.Link(root, "/f", "/f2"))
	symlink(t, f, "no", "/l")
	blocks, inodes := spare(f)
	f.Clock(9)
	moved(t, f, root, "/a/f", "/f")
	same(t, "in its slot", names(t, f, "/"), fmt.Sprintf(".=1 ..=1 a=%d f=%d f2=%d l=7", a, af, rf))
	same(t, "what it was", stat(t, f, "/f2"), api.Stat{Ino: rf, Links: 1, Size: 11, Blocks: 1, Mode: api.TypeReg | 0o644, Ctime: 9})
	room(t, "another name is left", f, blocks, inodes)
	moved(t, f, root, "/f", "/f2")
	room(t, "the last name", f, blocks+1, inodes+1)
	moved(t, f, root, "/f2", "/l") // the link itself, not what it leads to
	room(t, "a link", f, blocks+2, inodes+2)
	same(t, "a file", stat(t, f, "/l").Ino, af)
	symlink(t, f, "a", "/ld")
	moved(t, f, root, "/ld", "/l")
	s, _ := f.Readlink(root, "/l")
	same(t, "a link onto a file", s, "a")
}

// A file that is replaced, but held, stays.
func TestRenameOntoHeld(t *testing.T) {
	f := small(t)
	ino, e := f.Open(root, "/f", api.Read, 0)
	good(t, "Open", e)
	d, e := f.Dir(root, "/a/b/c")
	good(t, "Dir", e)
	blocks, inodes := spare(f)
	f.Clock(9)
	moved(t, f, root, "/a/f", "/f")
	same(t, "links", info(t, f, ino).Links, 0)
	b, _ := f.ReadAt(ino, 0, 99)
	same(t, "its bytes", string(b), "in the root")
	mkdir(t, f, "/e")
	moved(t, f, root, "/e", "/a/b/c")
	same(t, "the directory", info(t, f, d), api.Stat{Ino: abc, Mode: api.TypeDir | 0o755, Mtime: 9, Ctime: 9})
	good(t, "Release", f.Release(ino))
	good(t, "Release", f.Release(d))
	room(t, "let go", f, blocks, inodes+1) // /e has taken two blocks
	sound(t, "let go", f)
}

func TestRenameOntoDirectory(t *testing.T) {
	f := small(t)
	mkdir(t, f, "/e", "/e/in", "/a/e")
	good(t, "Rmdir", f.Rmdir(root, "/e/in"))
	blocks, inodes := spare(f)
	f.Clock(9)
	moved(t, f, root, "/a/b", "/e") // between two
	room(t, "it is gone", f, blocks+2, inodes+1)
	same(t, "in its slot", names(t, f, "/"), fmt.Sprintf(".=1 ..=1 a=%d f=%d e=%d", a, rf, ab))
	same(t, "links", []int{stat(t, f, "/").Links, stat(t, f, "/a").Links, stat(t, f, "/e").Links}, []int{4, 3, 3})
	leads(t, f, root, "/e/..", top)
	mkdir(t, f, "/e2")
	moved(t, f, root, "/e", "/e2") // within one
	same(t, "links", []int{stat(t, f, "/").Links, stat(t, f, "/e2").Links}, []int{4, 3})
	stays(t, f, root, "/a/e", "/e2", api.ENOTEMPTY)
	stays(t, f, root, "/a", "/e2", api.ENOTEMPTY)
	stays(t, f, root, "/e2/c", "/e2", api.ENOTEMPTY) // the one that it lies in
	moved(t, f, root, "/a/e/", "/e2/c/")
	same(t, "links", []int{stat(t, f, "/a").Links, stat(t, f, "/e2").Links, stat(t, f, "/e2/c").Links}, []int{2, 3, 2})
}

func TestRenameKinds(t *testing.T) {
	f := small(t)
	mkdir(t, f, "/e")
	symlink(t, f, "a", "/l")
	stays(t, f, root, "/f", "/e", api.EISDIR)
	stays(t, f, root, "/f", "/a", api.EISDIR)
	stays(t, f, root, "/l", "/e", api.EISDIR)
	stays(t, f, root, "/e", "/f", api.ENOTDIR)
	stays(t, f, root, "/e", "/l", api.ENOTDIR)
	stays(t, f, root, "/e", "/l/", api.ENOTDIR)
	stays(t, f, root, "/a/f", "/a", api.EISDIR) // the one that it lies in
	moved(t, f, root, "/f", "/l")
}

// Onto itself, and onto another name of the same inode: nothing.
func TestRenameSame(t *testing.T) {
	f := small(t)
	good(t, "Link", f.Link(root, "/f", "/a/g"))
	symlink(t, f, "a", "/l")
	good(t, "Link", f.Link(root, "/l", "/l2"))
	for _, v := range [][2]string{{"/f", "/f"}, {"/f", "/a/../f"}, {"/f", "/a/g"}, {"/a/g", "/f"}, {"/a", "/a"}, {"/a/", "/a"}, {"/a", "/a/"}, {"/a/b", "/l/b"}, {"/l", "/l"}, {"/l", "/l2"}, {"/a/b/c", "/a/b/../b/c/"}} {
		stays(t, f, root, v[0], v[1], api.OK)
	}
	stays(t, f, ann, "/f", "/f", api.EACCES)
	stays(t, f, root, "/f", "/f/", api.ENOTDIR)
	stays(t, f, root, "/l/", "/l", api.ENOTDIR)
}

// A directory into itself, or below.
func TestRenameInto(t *testing.T) {
	f := small(t)
	mkdir(t, f, "/a/b/c/d", "/abc", "/a/bb")
	symlink(t, f, "a/b", "/l")
	for _, to := range []string{"/a/x", "/a/b/x", "/a/b/c/x", "/a/b/c", "/a/f", "/a/b/c/d/x", "/l/x", "/a/b/x/", "/a/bb"} {
		stays(t, f, root, "/a", to, api.EINVAL)
		stays(t, f, root, "/a/", to, api.EINVAL)
	}
	stays(t, f, root, "/a/b", "/l/c/x", api.EINVAL)
	stays(t, f, root, "/a/b", "/a/b/c/d", api.EINVAL)
	stays(t, f, root, "/a/b/c/d", "/a/b", api.ENOTEMPTY) // the other way round
	moved(t, f, root, "/a/b", "/a/bb/x")
	moved(t, f, root, "/a", "/abc/a")
}

func TestRenameSlash(t *testing.T) {
	f := small(t)
	symlink(t, f, "a", "/l")
	for _, v := range [][2]string{{"/f/", "/g"}, {"/f", "/g/"}, {"/f/", "/g/"}, {"/f", "/a/"}, {"/f", "/f/"}, {"/l/", "/m"}, {"/l", "/m/"}, {"/l", "/a/"}, {"/f", "/l/"}} {
		stays(t, f, root, v[0], v[1], api.ENOTDIR)
		stays(t, f, ann, v[0], v[1], api.ENOTDIR)
	}
	stays(t, f, root, "/no/", "/g", api.ENOENT)
	moved(t, f, root, "/a/", "/new/")
	moved(t, f, root, "/new", "/a//")
	moved(t, f, root, "/a/b//", "/b")
}

func TestRenamePaths(t *testing.T) {
	f := small(t)
	symlink(t, f, "x", "/x")
	wrong := map[string]api.Errno{"": api.ENOENT, letters(28): api.ENAMETOOLONG, "/f/\x00": api.EINVAL, "/no/x": api.ENOENT, "/f/x": api.ENOTDIR, "/f/.": api.ENOTDIR, "/x/y": api.ELOOP}
	for p, want := range wrong {
		for _, q := range []string{"/new", "/f", "/", ".", "/a/b/c", "", "/f/x", letters(28), "\x00"} {
			stays(t, f, root, p, q, want) // from's errors come first
		}
		for _, q := range []string{"/new", "/f", "/", ".", "/a/..", "/no", "/a/b/c"} {
			stays(t, f, root, q, p, want)
		}
	}
	for _, p := range []string{"/", "//", ".", "..", "/a/.", "/a/b/..", "/a/./", "./"} {
		for _, q := range []string{"/new", "/no", "/f", "/a", "/f/", "/", ".."} {
			stays(t, f, root, p, q, api.EBUSY)
			stays(t, f, root, q, p, api.EBUSY)
			stays(t, f, ann, q, p, api.EBUSY)
		}
	}
	for _, p := range []string{"/no", "/a/no", "/no/", "no"} {
		for _, q := range []string{"/new", "/f", "/a", "/no", "/a/b/", "/f/"} {
			stays(t, f, root, p, q, api.ENOENT)
			stays(t, f, ann, p, q, api.ENOENT)
		}
	}
}

func TestRenameDenied(t *testing.T) {
	f := small(t)
	mkdir(t, f, "/w", "/w/d", "/w2")
	file(t, f, "/w/f", "")
	chmod(t, f, "/w", 0o777)
	chmod(t, f, "/w2", 0o777)
	for _, v := range [][2]string{{"/f", "/w/x"}, {"/w/f", "/x"}, {"/w/f", "/f"}, {"/f", "/w/f"}, {"/a", "/w/x"}, {"/w/d", "/a"}, {"/f", "/g"}, {"/a", "/a/b/x"}, {"/f", "/a"}} {
		stays(t, f, ann, v[0], v[1], api.EACCES)
	}
	stays(t, f, ann, "/w/d", "/w2/d", api.EACCES) // from itself
	stays(t, f, ann, "/w/d", "/w2/d/", api.EACCES)
	moved(t, f, ann, "/w/d", "/w/e") // not asked within one
	moved(t, f, ann, "/w/f", "/w2/f")
	chmod(t, f, "/w/e", 0o002)
	moved(t, f, ann, "/w/e", "/w2/e")
	chmod(t, f, "/w2", 0o776)
	stays(t, f, ann, "/w2/f", "/w/f", api.EACCES) // may not search
	stays(t, f, ann, "/w2/.", "/w/f", api.EACCES)
	stays(t, f, ann, "/w/no", "/w2/f", api.EACCES)
	chmod(t, f, "/w2", 0)
	chmod(t, f, "/w", 0)
	moved(t, f, root, "/w2/e", "/w/e")
}

func TestRenameSticky(t *testing.T) {
	other := api.Cred{Uid: 9, Gid: 9}
	f := sticky(t, other)
	mkdir(t, f, "/w")
	chmod(t, f, "/w", 0o777)
	chmod(t, f, "/s/dir", 0o777)
	chmod(t, f, "/s/dir2", 0o777)
	good(t, "Symlink", f.Symlink(bob, "x", "/w/bob"))
	good(t, "Mkdir", f.Mkdir(bob, "/w/bobs", 0o777))
	stays(t, f, bob, "/s/file", "/w/x", api.EPERM)   // of from
	stays(t, f, bob, "/w/bob", "/s/file", api.EPERM) // of to
	stays(t, f, bob, "/w/bobs", "/s/dir", api.EPERM)
	stays(t, f, bob, "/s/dir", "/s/dir/x", api.EPERM) // ahead of EINVAL
	stays(t, f, bob, "/w/bob", "/s/dir", api.EPERM)   // ahead of EISDIR
	stays(t, f, bob, "/w/bobs", "/s/file", api.EPERM) // ahead of ENOTDIR
	stays(t, f, bob, "/s/file", "/s/file", api.EPERM) // ahead of: they are the same
	stays(t, f, ann, "/s/file", "/s/file2", api.EPERM)
	moved(t, f, ann, "/s/file", "/w/file")
	moved(t, f, ann, "/w/file", "/s/file")
	moved(t, f, bob, "/w/bob", "/s/bob")
	moved(t, f, ann, "/w/bobs", "/s/dir")
	moved(t, f, other, "/s/file", "/s/file2")
	moved(t, f, root, "/s/bob", "/w/bob")
}

func TestRenameLinkMax(t *testing.T) {
	f := made(t, 100, 40)
	mkdir(t, f, "/full", "/other", "/other/d")
	for k := range 14 {
		mkdir(t, f, fmt.Sprint("/full/d", k))
	}
	file(t, f, "/f", "")
	stays(t, f, root, "/other/d", "/full/new", api.EMLINK)
	stays(t, f, root, "/full", "/full/new", api.EINVAL)
	moved(t, f, root, "/full/d3", "/full/new") // within one
	moved(t, f, root, "/f", "/full/f")         // no directory
	moved(t, f, root, "/other/d", "/full/d4")  // in the place of another
	same(t, "links", []int{stat(t, f, "/full").Links, stat(t, f, "/other").Links}, []int{16, 2})
	moved(t, f, root, "/full/d5", "/other/d5")
	moved(t, f, root, "/other/d5", "/full/d5")
	mkdir(t, f, "/other/d")
	stays(t, f, root, "/other/d", "/full/f", api.ENOTDIR)
	moved(t, f, root, "/other/d/", "/full/new/")
}

func TestRenameNoRoom(t *testing.T) {
	f := full(t, 1, 0) // the root has f and n0, and no slot more
	stays(t, f, root, "/f", "/g", api.ENOSPC)
	stays(t, f, root, "/n0", "/g", api.ENOSPC)
	stays(t, f, root, "/f", "/n0", api.OK)
	f = made(t, 8, 9)
	mkdir(t, f, "/d")
	ino := file(t, f, "/d/f", "")
	file(t, f, "/d/g", "")
	file(t, f, "/f", "")
	fill(t, f, ino, 0)
	stays(t, f, root, "/d/f", "/new", api.ENOSPC)
	stays(t, f, root, "/d", "/new", api.ENOSPC)
	stays(t, f, root, "/f", "/d/new", api.ENOSPC)
	stays(t, f, ann, "/f", "/d/new", api.EACCES)
	moved(t, f, root, "/d/g", "/f") // no slot is needed
	moved(t, f, root, "/f", "/d/g") // and here is a free one
	good(t, "Truncate", f.Truncate(root, "/d/f", 0))
	moved(t, f, root, "/d/f", "/new")
}

// EMLINK is told ahead of ENOSPC.
func TestRenameLinkMaxNoRoom(t *testing.T) {
	f := made(t, 28, 40)
	mkdir(t, f, "/o", "/o/d", "/full")
	for k := range 14 {
		mkdir(t, f, fmt.Sprint("/full/d", k))
	}
	blocks, _ := spare(f)
	same(t, "no block is left", blocks, 0)
	stays(t, f, root, "/o/d", "/full/new", api.EMLINK)
	stays(t, f, root, "/full/d3", "/full/new", api.ENOSPC)
}
