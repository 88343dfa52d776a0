package tree_test

import (
	"fmt"
	"strings"
	"testing"

	"tinsel/api"
	"tinsel/tree"
)

// small: /a, /a/b, /a/b/c, a file /a/f, a file /f.
func small(t *testing.T) *tree.FS {
	t.Helper()
	f := made(t, 100, 40)
	mkdir(t, f, "/a", "/a/b", "/a/b/c")
	file(t, f, "/a/f", "in a")
	file(t, f, "/f", "in the root")
	return f
}

// Their inodes.
const (
	top = 1
	a   = 2
	ab  = 3
	abc = 4
	af  = 5
	rf  = 6
)

// P6.2, and the section 'Words': following a path.

func TestFollowPlainPaths(t *testing.T) {
	f := small(t)
	for p, want := range map[string]int{
		"/": top, "//": top, "///": top, "/.": top, "/..": top, "/../..": top, "/./../.": top, "/../": top,
		"/a": a, "/a/": a, "//a//": a, "/./a": a, "/../a": a, "/a/.": a, "/a/./": a, "/a/b/..": a, "/a/b/../": a, "/a/b/c/../..": a,
		"/a/..": top, "/a/../": top, "/a/../..": top, "/a/../../a": a, "/a/b/c/../../../..": top,
		"/a/b": ab, "/a/b/c": abc, "/a//b///c": abc, "/a/./b/./c/.": abc, "/a/b/c/../c": abc, "/a/../a/b/../b/c": abc,
		"/a/f": af, "/f": rf, "/a/../f": rf, "/a/b/../../f": rf,
		"a": a, "a/b": ab, ".": top, "..": top, "./a": a, "../f": rf, "f": rf,
	} {
		leads(t, f, root, p, want)
		leads(t, f, ann, p, want)
	}
}

func TestFollowFromCwd(t *testing.T) {
	f := small(t)
	for p, want := range map[string]int{
		".": ab, "./": ab, "./.": ab, "..": a, "../": a, "../..": top, "../../..": top, "c": abc, "c/": abc, "./c": abc,
		"../f": af, "../../f": rf, "c/..": ab, "c/../..": a, "../b": ab, "/": top, "/a": a, "/f": rf, "/..": top, "/.": top,
	} {
		leads(t, f, in(root, ab), p, want)
		leads(t, f, in(ann, ab), p, want)
	}
	leads(t, f, in(root, 0), "a", a)
	leads(t, f, in(root, top), "a", a)
	for _, cwd := range []int{7, 40, 41, 4096, -1, 1 << 40} {
		for _, p := range []string{".", "..", "a", "a/", "no", "./no/x"} {
			leadsNowhere(t, f, in(root, cwd), p, api.ENOENT)
		}
		leads(t, f, in(root, cwd), "/a", a)
		leads(t, f, in(root, cwd), "/", top)
	}
	for _, p := range []string{".", "..", "a", "a/", "no", "./no/x"} {
		leadsNowhere(t, f, in(root, af), p, api.ENOTDIR)
	}
	leads(t, f, in(root, af), "/a", a)
	symlink(t, f, "/a", "/l")
	leadsNowhere(t, f, in(root, inode(t, f, "/l")), "b", api.ENOTDIR)
}

// The empty path, long ones, a byte 0: ahead of all else.
func TestFollowTextErrors(t *testing.T) {
	f := small(t)
	long := strings.Repeat("/a/..", 51) // 255 bytes
	leads(t, f, root, long, top)
	leads(t, f, root, "/a"+strings.Repeat("/", 253), a)
	for _, c := range []api.Cred{root, ann, in(root, -1), in(root, af)} {
		leadsNowhere(t, f, c, "", api.ENOENT)
		leadsNowhere(t, f, c, long+"/", api.ENAMETOOLONG)
		leadsNowhere(t, f, c, strings.Repeat("/", 256), api.ENAMETOOLONG)
		leadsNowhere(t, f, c, letters(28), api.ENAMETOOLONG)
		leadsNowhere(t, f, c, "/f/no/"+letters(28), api.ENAMETOOLONG)
		leadsNowhere(t, f, c, "/f/\x00", api.EINVAL)
		leadsNowhere(t, f, c, "\x00", api.EINVAL)
		leadsNowhere(t, f, c, letters(28)+"/\x00", api.ENAMETOOLONG)
	}
	leadsNowhere(t, f, root, "/"+letters(27), api.ENOENT)
	mkdir(t, f, "/"+letters(27))
	leads(t, f, root, "/"+letters(27)+"/", inode(t, f, letters(27)))
}

func TestFollowMissing(t *testing.T) {
	f := small(t)
	for _, p := range []string{"/no", "/no/", "/no/no", "/no/.", "/no/..", "/no/../a", "/a/no", "/a/no/", "/a/no/b", "no", "/A", "/a/b/c/d", "/ab"} {
		leadsNowhere(t, f, root, p, api.ENOENT)
	}
	for _, p := range []string{"/f/", "/f/.", "/f/..", "/f/a", "/f/no", "/f/../a", "/a/f/", "/a/f/..", "/f/no/no"} {
		leadsNowhere(t, f, root, p, api.ENOTDIR)
	}
}

// A directory that may not be searched: by whom, and where on the path.
func TestFollowSearch(t *testing.T) {
	f := small(t)
	chmod(t, f, "/a", 0o666)
	for _, p := range []string{"/a/b", "/a/.", "/a/..", "/a/no", "/a/./", "/a/b/c", "/a/f/x", "/a/f", "a/../f"} {
		leadsNowhere(t, f, ann, p, api.EACCES)
	}
	for _, p := range []string{".", "..", "b", "no", "./"} {
		leadsNowhere(t, f, in(ann, a), p, api.EACCES)
	}
	leads(t, f, ann, "/a", a) // at the end it is not searched
	leads(t, f, ann, "/a/", a)
	leads(t, f, root, "/a/b/c", abc)
	leads(t, f, in(ann, ab), "c", abc)
	leadsNowhere(t, f, in(ann, ab), "../b", api.EACCES)
	leadsNowhere(t, f, in(ann, ab), "../f/x", api.EACCES)
	leads(t, f, in(ann, ab), "..", a)

	chown(t, f, "/a", ann)
	chmod(t, f, "/a", 0o677)
	leadsNowhere(t, f, ann, "/a/b", api.EACCES) // the owner's bits count
	leads(t, f, bob, "/a/b", ab)
	chmod(t, f, "/a", 0o100)
	leads(t, f, ann, "/a/b", ab)
	leadsNowhere(t, f, bob, "/a/b", api.EACCES)
	good(t, "Chown", f.Chown(root, "/a", 9, 82, true))
	chmod(t, f, "/a", 0o010)
	leads(t, f, bob, "/a/b", ab) // one of his groups
	leadsNowhere(t, f, ann, "/a/b", api.EACCES)

	chmod(t, f, "/", 0)
	leads(t, f, ann, "/", top)
	leads(t, f, ann, "//", top)
	for _, p := range []string{"/.", "/..", "/f", "/no", "f", ".", "/f/x"} {
		leadsNowhere(t, f, ann, p, api.EACCES)
	}
	leads(t, f, root, "/f", rf)
}

func TestFollowLinks(t *testing.T) {
	f := small(t)
	for _, l := range [][2]string{
		{"a", "/l"}, {"a/b", "/lb"}, {"/a/b", "/a/abs"}, {"..", "/a/up"}, {".", "/a/dot"}, {"../f", "/a/out"},
		{"/", "/a/b/root"}, {"//", "/a/b/roots"}, {"../../a/./b/../b/c", "/a/b/far"}, {"l", "/ll"}, {"f", "/lf"}, {"no", "/gone"}, {"l/no", "/gone2"}, {"no/no", "/gone3"},
	} {
		symlink(t, f, l[0], l[1])
	}
	for p, want := range map[string]int{ // in the middle, or with a slash: whether links are followed or not
		"/l/": a, "/l/.": a, "/l/..": top, "/l/b": ab, "/l/b/c": abc, "/l/f": af, "/lb/..": a, "/lb/c": abc, "/lb/": ab,
		"/a/abs/c": abc, "/a/abs/": ab, "/a/up/f": rf, "/a/up/": top, "/a/up/..": top, "/a/dot/f": af, "/a/dot/": a, "/a/dot/..": top,
		"/a/b/root/": top, "/a/b/root/f": rf, "/a/b/roots/a": a, "/a/b/root/..": top, "/a/b/far/..": ab, "/a/b/far/": abc,
		"/ll/b": ab, "/ll/": a, "/l/b/root/l/b/root/lb/c": abc, "/l/../l/./b": ab, "/l/dot/dot/up/l/b": ab,
	} {
		leads(t, f, root, p, want)
		leads(t, f, in(ann, abc), p, want)
	}
	for p, want := range map[string]int{ // at the end
		"/l": a, "/lb": ab, "/a/abs": ab, "/a/up": top, "/a/dot": a, "/a/out": rf, "/a/b/root": top, "/a/b/roots": top, "/a/b/far": abc, "/ll": a, "/lf": rf, "/l/out": rf, "/l/b/root/l/b/root": top,
	} {
		leadsTo(t, f, root, p, true, want)
		leadsTo(t, f, in(ann, abc), p, true, want)
		ino, e := f.Resolve(root, p, false)
		st, e2 := f.Info(ino)
		if e != api.OK || e2 != api.OK || st.Mode != api.TypeLink|0o777 {
			t.Errorf("Resolve %s without links: %+v, %v, %v", p, st, e, e2)
		}
	}
	for _, p := range []string{"/lf/", "/lf/x", "/lf/.", "/a/out/", "/l/out/.."} {
		leadsNowhere(t, f, root, p, api.ENOTDIR)
	}
	for _, p := range []string{"/gone/", "/gone/x", "/gone2/", "/gone3/", "/gone3/."} {
		leadsNowhere(t, f, root, p, api.ENOENT)
	}
	for _, p := range []string{"/gone", "/gone2", "/gone3"} {
		nowhere(t, f, root, p, true, api.ENOENT)
		leadsTo(t, f, root, p, false, inode(t, f, p))
	}
}

// A slash at the end of a link's content, and one behind the link.
func TestFollowSlashOfLink(t *testing.T) {
	f := small(t)
	for _, l := range [][2]string{{"a/", "/ls"}, {"f/", "/lfs"}, {"f", "/lf"}, {"lf", "/llf"}, {"lf/", "/llfs"}, {"ls/", "/lls"}, {"no/", "/nos"}, {"lfs", "/to-lfs"}, {"a/f/", "/a-f"}, {"/a//", "/abs"}, {"gap", "/l-gap"}} {
		symlink(t, f, l[0], l[1])
	}
	for _, p := range []string{"/ls", "/lls", "/abs"} {
		leadsTo(t, f, root, p, true, a)
		leads(t, f, root, p+"/", a)
		leads(t, f, root, p+"/b", ab)
		leadsTo(t, f, root, p, false, inode(t, f, p))
	}
	for _, p := range []string{"/lfs", "/llfs", "/to-lfs", "/a-f"} {
		nowhere(t, f, root, p, true, api.ENOTDIR)
		leadsTo(t, f, root, p, false, inode(t, f, p))
		leadsNowhere(t, f, root, p+"/", api.ENOTDIR)
		leadsNowhere(t, f, root, p+"/x", api.ENOTDIR)
	}
	leadsTo(t, f, root, "/llf", true, rf)
	leadsNowhere(t, f, root, "/llf/", api.ENOTDIR)
	nowhere(t, f, root, "/nos", true, api.ENOENT)
	leadsNowhere(t, f, root, "/nos/", api.ENOENT)
	nowhere(t, f, root, "/l-gap", true, api.ENOENT)
}

// chain: links l1 to ln, each to the one ahead of it, l1 to /a.
func chain(t *testing.T, f *tree.FS, n int) {
	t.Helper()
	symlink(t, f, "/a", "/l1")
	for k := 2; k <= n; k++ {
		symlink(t, f, fmt.Sprint("l", k-1), fmt.Sprint("/l", k))
	}
}

func TestFollowSymMax(t *testing.T) {
	f := small(t)
	chain(t, f, 10)
	for k := 1; k <= 8; k++ {
		p := fmt.Sprint("/l", k)
		leadsTo(t, f, root, p, true, a)
		leads(t, f, root, p+"/", a)
		leads(t, f, root, p+"/b/c", abc)
	}
	for k := 9; k <= 10; k++ {
		p := fmt.Sprint("/l", k)
		nowhere(t, f, root, p, true, api.ELOOP)
		leadsTo(t, f, root, p, false, inode(t, f, p))
		leadsNowhere(t, f, root, p+"/", api.ELOOP)
		leadsNowhere(t, f, root, p+"/b", api.ELOOP)
		leadsNowhere(t, f, root, p+"/no", api.ELOOP)
	}
	// All links of one path count together, wherever they stand.
	leads(t, f, root, "/l4/../l4/b", ab)
	leadsNowhere(t, f, root, "/l4/../l5/b", api.ELOOP)
	leads(t, f, root, strings.Repeat("/l1/..", 8)+"/a", a)
	leadsNowhere(t, f, root, strings.Repeat("/l1/..", 9), api.ELOOP)
	leadsTo(t, f, root, strings.Repeat("/l1/..", 8)+"/l1", false, inode(t, f, "/l1"))
	nowhere(t, f, root, strings.Repeat("/l1/..", 8)+"/l1", true, api.ELOOP)
	leadsNowhere(t, f, root, strings.Repeat("/l1/..", 8)+"/l1/", api.ELOOP)
	leadsNowhere(t, f, root, strings.Repeat("/l1/..", 8)+"/no", api.ENOENT)
	leadsNowhere(t, f, root, strings.Repeat("/l1/..", 8)+"/f/", api.ENOTDIR)
}

func TestFollowLoops(t *testing.T) {
	f := small(t)
	for _, l := range [][2]string{{"x", "/x"}, {"z", "/y"}, {"y", "/z"}, {"in/x", "/in"}, {"/a/abs", "/a/abs"}, {"./dot", "/dot"}} {
		symlink(t, f, l[0], l[1])
	}
	for _, p := range []string{"/x", "/y", "/z", "/in", "/a/abs", "/dot"} {
		nowhere(t, f, root, p, true, api.ELOOP)
		leadsTo(t, f, root, p, false, inode(t, f, p))
		leadsNowhere(t, f, root, p+"/", api.ELOOP)
		leadsNowhere(t, f, root, p+"/no", api.ELOOP)
		leadsNowhere(t, f, root, p+"/..", api.ELOOP)
	}
}

// A link's content is followed by the caller's rights, from the directory of the link.
func TestFollowLinkSearch(t *testing.T) {
	f := small(t)
	symlink(t, f, "b/c", "/a/l")
	symlink(t, f, "a/b", "/m")
	symlink(t, f, "/", "/a/top")
	chmod(t, f, "/a/b", 0o600)
	nowhere(t, f, ann, "/a/l", true, api.EACCES)
	leadsTo(t, f, ann, "/a/l", false, inode(t, f, "/a/l"))
	leads(t, f, ann, "/m/", ab)
	leadsNowhere(t, f, ann, "/m/c", api.EACCES)
	chmod(t, f, "/a", 0o600)
	nowhere(t, f, ann, "/m", true, api.EACCES)
	leadsNowhere(t, f, ann, "/m/", api.EACCES)
	leadsNowhere(t, f, ann, "/a/top/f", api.EACCES)
	leads(t, f, root, "/a/top/f", rf)
	// The bits of the link itself say nothing.
	good(t, "Chown", f.Chown(root, "/m", 9, 9, false))
	leads(t, f, root, "/m/", ab)
}

// A link's content may be as long as a path, and with the names behind it longer.
func TestFollowLongContent(t *testing.T) {
	f := small(t)
	symlink(t, f, strings.Repeat("./", 127)+"a", "/long")
	leadsTo(t, f, root, "/long", true, a)
	leads(t, f, root, "/long/b/c", abc)
	leads(t, f, root, "/long"+strings.Repeat("/.", 120)+"/b", ab)
	symlink(t, f, "a"+strings.Repeat("/", 254), "/slashes")
	leadsTo(t, f, root, "/slashes", true, a)
	leads(t, f, root, "/slashes/b", ab)
}

// In a directory that is gone, but held, only . leads anywhere.
func TestFollowFromGone(t *testing.T) {
	f := small(t)
	ino, e := f.Dir(root, "/a/b/c")
	good(t, "Dir", e)
	good(t, "Rmdir", f.Rmdir(root, "/a/b/c"))
	c := in(root, ino)
	for _, p := range []string{".", "./", "./.", "././"} {
		leads(t, f, c, p, ino)
	}
	for _, p := range []string{"..", "../", "no", "./no", "./..", "../b", "no/.."} {
		leadsNowhere(t, f, c, p, api.ENOENT)
	}
	leads(t, f, c, "/a", a)
	chmod(t, f, "/a", 0o755)
	good(t, "Chmod", f.Chmod(c, ".", 0o600))
	leadsNowhere(t, f, in(ann, ino), ".", api.EACCES)
	leadsNowhere(t, f, in(ann, ino), "no", api.EACCES)
	good(t, "Release", f.Release(ino))
	leadsNowhere(t, f, c, ".", api.ENOENT)
	leads(t, f, c, "/a", a)
}

func TestStat(t *testing.T) {
	f := made(t, 40, 20)
	f.Clock(4)
	c := masked(bob, 0o022)
	chmod(t, f, "/", 0o777)
	f.Clock(5)
	ino, e := f.Open(c, "/f", api.Write|api.Create, 0o666)
	good(t, "Open", e)
	f.Clock(6)
	write(t, f, ino, 70, "abc")
	f.Clock(7)
	symlink(t, f, "f", "/l")
	want := api.Stat{Ino: 2, Links: 1, Uid: 8, Gid: 80, Size: 73, Blocks: 1, Mode: api.TypeReg | 0o644, Atime: 5, Mtime: 6, Ctime: 6}
	for _, follow := range []bool{true, false} {
		st, e := f.Stat(ann, "/f", follow)
		same(t, "Stat", fmt.Sprint(st, e), fmt.Sprint(want, api.OK))
	}
	st, e := f.Stat(ann, "/l", true)
	same(t, "Stat through the link", fmt.Sprint(st, e), fmt.Sprint(want, api.OK))
	st, e = f.Stat(ann, "/l", false)
	same(t, "Stat of the link", fmt.Sprint(st, e), fmt.Sprint(api.Stat{Ino: 3, Links: 1, Size: 1, Blocks: 1, Mode: api.TypeLink | 0o777, Atime: 7, Mtime: 7, Ctime: 7}, api.OK))
	st, e = f.Info(3)
	same(t, "Info", fmt.Sprint(st, e), fmt.Sprint(stat(t, f, "/l"), api.OK))
}

func TestAccess(t *testing.T) {
	f := small(t)
	symlink(t, f, "f", "/l")
	symlink(t, f, "l", "/ll")
	symlink(t, f, "no", "/gone")
	good(t, "Chown", f.Chown(root, "/f", 7, 80, true))
	chmod(t, f, "/f", 0o641)
	for how := range 8 {
		for _, v := range []struct {
			c    api.Cred
			bits int
		}{{ann, 6}, {bob, 4}, {api.Cred{Uid: 9, Gid: 9}, 1}, {api.Cred{Uid: 9, Gid: 9, Groups: []int{80}}, 4}, {root, 7}} {
			want := api.OK
			if how&^v.bits != 0 {
				want = api.EACCES
			}
			for _, p := range []string{"/f", "/l", "/ll", "f"} {
				is(t, fmt.Sprint("Access ", p, v, how), f.Access(v.c, p, how), want)
			}
		}
	}
	chmod(t, f, "/f", 0o666)
	is(t, "root, no x", f.Access(root, "/f", 1), api.EACCES)
	is(t, "root, no x", f.Access(root, "/f", 7), api.EACCES)
	is(t, "root, no x", f.Access(root, "/f", 6), api.OK)
	chmod(t, f, "/a", 0)
	is(t, "root, a directory", f.Access(root, "/a", 7), api.OK)
	is(t, "ann, a directory", f.Access(ann, "/a", 1), api.EACCES)
	is(t, "ann, nothing wanted", f.Access(ann, "/a", 0), api.OK)
	is(t, "ann, in it", f.Access(ann, "/a/b", 0), api.EACCES)
	is(t, "missing", f.Access(root, "/no", 0), api.ENOENT)
	is(t, "a link to nothing", f.Access(root, "/gone", 0), api.ENOENT)
	for _, how := range []int{-1, 8, 16, -8, 1 << 40, -1 << 63, 1<<63 - 1} {
		for _, p := range []string{"/f", "/no", "", "/f/x", "/a/b"} {
			is(t, "how", f.Access(ann, p, how), api.EINVAL)
		}
	}
}

func TestReadlink(t *testing.T) {
	f := small(t)
	for k, s := range []string{"f", "/", "no//where/.", "a/", letters(27), strings.Repeat("./", 127) + "a", "\xff\n"} {
		p := fmt.Sprint("/l", k)
		symlink(t, f, s, p)
		if got, e := f.Readlink(ann, p); got != s || e != api.OK {
			t.Errorf("Readlink %s: %s, %v, want %s", p, brief(got), e, brief(s))
		}
	}
	symlink(t, f, "l0", "/to-l0")
	symlink(t, f, "x", "/x")
	for p, want := range map[string]string{"/to-l0": "l0", "/l3/../l0": "f", "/x": "x", "to-l0": "l0"} {
		if got, e := f.Readlink(ann, p); got != want || e != api.OK {
			t.Errorf("Readlink %s: %s, %v, want %s", p, brief(got), e, brief(want))
		}
	}
	for p, want := range map[string]api.Errno{
		"/f": api.EINVAL, "/a": api.EINVAL, "/": api.EINVAL, "/a/": api.EINVAL, "/l3/": api.EINVAL, "/l3/.": api.EINVAL, "/l1/": api.EINVAL,
		"/l0/": api.ENOTDIR, "/f/": api.ENOTDIR, "/to-l0/": api.ENOTDIR, "/no": api.ENOENT, "/l4/": api.ENOENT, "/x/": api.ELOOP, "": api.ENOENT, letters(28): api.ENAMETOOLONG,
	} {
		if got, e := f.Readlink(ann, p); got != "" || e != want {
			t.Errorf("Readlink %s: %s, %v, want %v", p, brief(got), e, want)
		}
	}
	chmod(t, f, "/", 0o600)
	if got, e := f.Readlink(ann, "/l0"); got != "" || e != api.EACCES {
		t.Errorf("Readlink: %s, %v, want EACCES", brief(got), e)
	}
}
