package tree_test

import (
	"fmt"
	"math"
	"testing"

	"tinsel/api"
	"tinsel/tree"
)

// bits: a mode's octal digits.
func bits(m api.Mode) string { return fmt.Sprintf("%o", int(m)) }

// owned: /f of ann's, of group 80, and /d likewise; /l leads to /f.
func owned(t *testing.T) *tree.FS {
	t.Helper()
	f := made(t, 30, 20)
	file(t, f, "/f", "text")
	mkdir(t, f, "/d")
	symlink(t, f, "f", "/l")
	good(t, "Chown", f.Chown(root, "/f", 7, 80, true))
	good(t, "Chown", f.Chown(root, "/d", 7, 80, true))
	return f
}

// P6.9

func TestChmod(t *testing.T) {
	for _, v := range []struct {
		who       api.Cred
		mode      api.Mode
		file, dir api.Mode
	}{
		{root, 0o7777, 0o7777, 0o7777}, {root, 0o2644, 0o2644, 0o2644}, {root, 0, 0, 0}, {root, -1, 0o7777, 0o7777}, {root, api.TypeLink | 0o5, 0o5, 0o5},
		{ann, 0o7777, 0o5777, 0o7777}, {ann, 0o2000, 0, 0o2000}, {ann, 0o755, 0o755, 0o755}, {ann, -1, 0o5777, 0o7777},
		{api.Cred{Uid: 7, Gid: 80}, 0o7777, 0o7777, 0o7777}, {api.Cred{Uid: 7, Gid: 1, Groups: []int{2, 80}}, 0o7777, 0o7777, 0o7777}, {api.Cred{Uid: 7, Gid: 1, Groups: []int{2, 3}}, 0o7777, 0o5777, 0o7777},
	} {
		f := owned(t)
		f.Clock(9)
		what := fmt.Sprintf("Chmod by %v, %o", v.who, v.mode)
		was := stat(t, f, "/f")
		is(t, what, f.Chmod(v.who, "/f", v.mode), api.OK)
		same(t, what, bits(stat(t, f, "/f").Mode), bits(api.TypeReg|v.file))
		was.Mode, was.Ctime = api.TypeReg|v.file, 9
		same(t, what, stat(t, f, "/f"), was)
		is(t, what, f.Chmod(v.who, "/d/", v.mode), api.OK)
		same(t, what, bits(stat(t, f, "/d").Mode), bits(api.TypeDir|v.dir))
	}
	f := owned(t)
	is(t, "through a link", f.Chmod(ann, "/l", 0o600), api.OK)
	same(t, "the file", bits(stat(t, f, "/f").Mode), "100600")
	same(t, "the link", bits(stat(t, f, "/l").Mode), "120777")
	is(t, "the root", f.Chmod(root, "/", 0o711), api.OK)
	same(t, "the root", bits(stat(t, f, "/").Mode), "40711")
}

func TestChmodRefuses(t *testing.T) {
	f := owned(t)
	symlink(t, f, "no", "/gone")
	for _, p := range []string{"/f", "/l", "/d", "/", "/d/."} {
		refused(t, "Chmod by bob", f, api.EPERM, func() api.Errno { return f.Chmod(bob, p, 0o777) })
		refused(t, "Chmod by one of the group", f, api.EPERM, func() api.Errno { return f.Chmod(api.Cred{Uid: 9, Gid: 80}, p, 0o777) })
	}
	for p, want := range map[string]api.Errno{"": api.ENOENT, "/no": api.ENOENT, "/gone": api.ENOENT, "/f/": api.ENOTDIR, "/l/": api.ENOTDIR, letters(28): api.ENAMETOOLONG} {
		refused(t, "Chmod "+p, f, want, func() api.Errno { return f.Chmod(root, p, 0o777) })
	}
	chmod(t, f, "/", 0o600)
	refused(t, "not searched", f, api.EACCES, func() api.Errno { return f.Chmod(ann, "/f", 0o777) })
}

func TestChown(t *testing.T) {
	groups := api.Cred{Uid: 7, Gid: 70, Groups: []int{71, 72}}
	for _, v := range []struct {
		who      api.Cred
		uid, gid int
		want     api.Errno
	}{
		{root, -1, -1, api.OK}, {root, 5, -1, api.OK}, {root, -1, 5, api.OK}, {root, 5, 6, api.OK}, {root, 0, 0, api.OK}, {root, math.MaxInt, math.MaxInt, api.OK},
		{groups, -1, -1, api.OK}, {groups, 7, -1, api.OK}, {groups, 7, 80, api.OK}, {groups, -1, 80, api.OK}, {groups, -1, 70, api.OK}, {groups, -1, 71, api.OK}, {groups, 7, 72, api.OK},
		{groups, -1, 73, api.EPERM}, {groups, 7, 0, api.EPERM}, {groups, 8, -1, api.EPERM}, {groups, 0, -1, api.EPERM}, {groups, 8, 70, api.EPERM}, {groups, 8, 73, api.EPERM},
		{bob, -1, -1, api.EPERM}, {bob, 7, 80, api.EPERM}, {bob, -1, 80, api.EPERM}, {bob, 8, 80, api.EPERM},
		{root, -2, -1, api.EINVAL}, {root, -1, -2, api.EINVAL}, {root, math.MinInt, 5, api.EINVAL}, {root, 5, math.MinInt, api.EINVAL}, {bob, -2, -1, api.EINVAL}, {bob, 5, -2, api.EINVAL}, {groups, 8, -2, api.EINVAL},
	} {
		for _, p := range []string{"/f", "/d", "/l"} {
			f := owned(t)
			chmod(t, f, "/f", 0o6755)
			chmod(t, f, "/d", 0o6755)
			what := fmt.Sprintf("Chown %s by %v, %d, %d", p, v.who, v.uid, v.gid)
			call := func() api.Errno { return f.Chown(v.who, p, v.uid, v.gid, true) }
			if v.want != api.OK {
				refused(t, what, f, v.want, call)
				continue
			}
			want, e := f.Stat(root, p, true)
			good(t, "Stat", e)
			if v.uid != -1 {
				want.Uid = v.uid
			}
			if v.gid != -1 {
				want.Gid = v.gid
			}
			if p != "/d" && (v.uid != -1 || v.gid != -1) {
				want.Mode = api.TypeReg | 0o755
			}
			want.Ctime = 9
			f.Clock(9)
			is(t, what, call(), api.OK)
			st, _ := f.Stat(root, p, true)
			same(t, what, st, want)
			same(t, what+": the link", stat(t, f, "/l"), api.Stat{Ino: 4, Links: 1, Size: 1, Blocks: 1, Mode: api.TypeLink | 0o777})
		}
	}
}

// All other bits stay, as do those of what is no regular file.
func TestChownBits(t *testing.T) {
	f := owned(t)
	chmod(t, f, "/f", 0o7777)
	is(t, "Chown", f.Chown(root, "/f", -1, -1, true), api.OK)
	same(t, "nothing else", bits(stat(t, f, "/f").Mode), "107777")
	is(t, "Chown", f.Chown(ann, "/f", 7, -1, true), api.OK)
	same(t, "SetUid and SetGid go", bits(stat(t, f, "/f").Mode), "101777")
	chmod(t, f, "/f", 0o6000)
	is(t, "Chown", f.Chown(root, "/f", -1, 80, true), api.OK)
	same(t, "the same group", bits(stat(t, f, "/f").Mode), "100000")
	chmod(t, f, "/d", 0o7777)
	is(t, "Chown", f.Chown(root, "/d", 1, 1, true), api.OK)
	same(t, "a directory", bits(stat(t, f, "/d").Mode), "47777")
}

func TestChownLinks(t *testing.T) {
	f := owned(t)
	symlink(t, f, "d", "/ld")
	is(t, "the link", f.Chown(root, "/l", 5, 6, false), api.OK)
	st := stat(t, f, "/l")
	same(t, "the link", fmt.Sprintf("%d %d %o", st.Uid, st.Gid, st.Mode), "5 6 120777")
	st = stat(t, f, "/f")
	same(t, "the file", []int{st.Uid, st.Gid}, []int{7, 80})
	is(t, "a slash", f.Chown(root, "/ld/", 5, 6, false), api.OK)
	st = stat(t, f, "/d")
	same(t, "the directory", []int{st.Uid, st.Gid}, []int{5, 6})
	st = stat(t, f, "/ld")
	same(t, "the link", []int{st.Uid, st.Gid}, []int{0, 0})
	for p, want := range map[string]api.Errno{"": api.ENOENT, "/no": api.ENOENT, "/f/": api.ENOTDIR, "/l/": api.ENOTDIR, "/f/x": api.ENOTDIR, letters(28): api.ENAMETOOLONG} {
		for _, follow := range []bool{true, false} { // ahead of EINVAL and EPERM
			refused(t, "Chown "+p, f, want, func() api.Errno { return f.Chown(root, p, -2, -2, follow) })
			refused(t, "Chown "+p, f, want, func() api.Errno { return f.Chown(bob, p, 5, 5, follow) })
		}
	}
}

func TestUtime(t *testing.T) {
	f := owned(t)
	f.Clock(9)
	for _, v := range [][2]int64{{3, 4}, {-3, 0}, {math.MaxInt64, math.MinInt64}} {
		for _, c := range []api.Cred{root, ann} {
			is(t, "Utime", f.Utime(c, "/l", v[0], v[1], true), api.OK)
			same(t, "the file", stat(t, f, "/f"), api.Stat{Ino: 2, Links: 1, Uid: 7, Gid: 80, Size: 4, Blocks: 1, Mode: api.TypeReg | 0o644, Atime: v[0], Mtime: v[1], Ctime: 9})
			is(t, "Utime", f.Utime(c, "/d/.", v[0], v[1], false), api.OK)
			same(t, "the directory", []int64{stat(t, f, "/d").Atime, stat(t, f, "/d").Mtime, stat(t, f, "/d").Ctime}, []int64{v[0], v[1], 9})
		}
	}
	same(t, "the link", []int64{stat(t, f, "/l").Atime, stat(t, f, "/l").Mtime, stat(t, f, "/l").Ctime}, []int64{0, 0, 0})
	is(t, "Utime", f.Utime(root, "/l", 5, 6, false), api.OK)
	same(t, "the link", []int64{stat(t, f, "/l").Atime, stat(t, f, "/l").Mtime, stat(t, f, "/l").Ctime}, []int64{5, 6, 9})
	for _, p := range []string{"/f", "/l", "/d", "/"} {
		refused(t, "Utime by bob", f, api.EPERM, func() api.Errno { return f.Utime(bob, p, 1, 2, true) })
	}
	refused(t, "Utime of root's link by ann", f, api.EPERM, func() api.Errno { return f.Utime(ann, "/l", 1, 2, false) })
	for p, want := range map[string]api.Errno{"": api.ENOENT, "/no": api.ENOENT, "/f/": api.ENOTDIR, "/l/": api.ENOTDIR, letters(28): api.ENAMETOOLONG} {
		refused(t, "Utime "+p, f, want, func() api.Errno { return f.Utime(bob, p, 1, 2, false) })
	}
}

// P6.10

func TestTruncate(t *testing.T) {
	f := owned(t)
	f.Clock(9)
	for _, size := range []int{2, 0, 200, 17792, 3} {
		is(t, "Truncate", f.Truncate(ann, "/l", size), api.OK)
		st := stat(t, f, "/f")
		same(t, "size", []int64{int64(st.Size), st.Mtime, st.Ctime, st.Atime}, []int64{int64(size), 9, 9, 0})
	}
	b, _ := f.ReadAt(2, 0, 9)
	same(t, "bytes", string(b), "\x00\x00\x00")
	symlink(t, f, "d", "/ld")
	symlink(t, f, "no", "/gone")
	for _, size := range []int{5, -1, 17793} { // ahead of what is wrong with the size
		for p, want := range map[string]api.Errno{"/": api.EISDIR, "/d": api.EISDIR, "/ld": api.EISDIR, "/ld/": api.EISDIR, "/gone": api.ENOENT, "/no": api.ENOENT, "": api.ENOENT, "/f/": api.ENOTDIR, letters(28): api.ENAMETOOLONG} {
			refused(t, "Truncate "+p, f, want, func() api.Errno { return f.Truncate(root, p, size) })
		}
		refused(t, "Truncate by bob", f, api.EACCES, func() api.Errno { return f.Truncate(bob, "/f", size) })
		refused(t, "Truncate of a directory by bob", f, api.EISDIR, func() api.Errno { return f.Truncate(bob, "/d", size) })
	}
	for _, size := range []int{-1, math.MinInt} {
		refused(t, "below 0", f, api.EINVAL, func() api.Errno { return f.Truncate(ann, "/f", size) })
	}
	for _, size := range []int{17793, math.MaxInt} {
		refused(t, "too big", f, api.EFBIG, func() api.Errno { return f.Truncate(ann, "/f", size) })
	}
	chmod(t, f, "/f", 0o422)
	refused(t, "the owner may not", f, api.EACCES, func() api.Errno { return f.Truncate(ann, "/f", 1) })
	is(t, "others may", f.Truncate(api.Cred{Uid: 9}, "/f", 1), api.OK)
	chmod(t, f, "/f", 0)
	is(t, "root may", f.Truncate(root, "/f", 0), api.OK)
}
