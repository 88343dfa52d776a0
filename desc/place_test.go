package desc_test

import (
	"fmt"
	"math"
	"strings"
	"testing"

	"tinsel/api"
	"tinsel/desc"
)

// cwd: what Getcwd tells.
func cwd(t *testing.T, p *desc.Proc, want string) {
	t.Helper()
	if got, e := p.Getcwd(); got != want || e != api.OK {
		t.Errorf("Getcwd: %q, %v, want %q", got, e, want)
	}
}

// P7.8: Chdir, Getcwd.

func TestChdir(t *testing.T) {
	p := made(t)
	mkdir(t, p, "/a", "/a/b", "/a/b/c", "/d")
	good(t, "Symlink", p.Symlink("/a/b", "/d/l"))
	for _, v := range [][2]string{
		{"a", "/a"}, {"b/c", "/a/b/c"}, {".", "/a/b/c"}, {"..", "/a/b"}, {"../..", "/"}, {"..", "/"}, {"/d/l", "/a/b"}, {"/d/l/c/", "/a/b/c"},
		{"../../../d", "/d"}, {"l", "/a/b"}, {"/", "/"}, {"/a//b/./c/../", "/a/b"}, {"/d", "/d"},
	} {
		is(t, "Chdir "+v[0], p.Chdir(v[0]), api.OK)
		cwd(t, p, v[1])
		same(t, "Cred", p.Cred().Cwd, inode(t, p.FS(), v[1]))
		total := 0
		for _, ino := range p.FS().Inodes() {
			total += holdsOf(p.FS(), ino)
		}
		same(t, "one is held", total, 1)
		heldBy(t, "that one", p.FS(), p.Cred().Cwd, 1)
	}
	mkdir(t, p, "here")
	same(t, "relative paths begin there", inode(t, p.FS(), "/d/here"), 7)
}

func TestChdirRefuses(t *testing.T) {
	fs := store(t, 64, 16)
	r := proc(t, fs, root)
	mkdir(t, r, "/a", "/shut", "/shut/in")
	file(t, r, "/a/f", "x")
	good(t, "Symlink", r.Symlink("x", "/x"))
	good(t, "Symlink", r.Symlink("a/f", "/lf"))
	good(t, "Chmod", r.Chmod("/shut", 0o666))
	p := proc(t, fs, in(ann, inode(t, fs, "/a")))
	for path, want := range map[string]api.Errno{
		"": api.ENOENT, "f": api.ENOTDIR, "f/": api.ENOTDIR, "/lf": api.ENOTDIR, "f/x": api.ENOTDIR, "no": api.ENOENT, "/no/x": api.ENOENT, "/x": api.ELOOP, "/shut": api.EACCES, "/shut/": api.EACCES, "/shut/in": api.EACCES, "../shut/.": api.EACCES,
		letters(28): api.ENAMETOOLONG, strings.Repeat("/", 256): api.ENAMETOOLONG, "\x00": api.EINVAL,
	} {
		refused(t, "Chdir "+path, p, want, func() api.Errno { return p.Chdir(path) })
	}
	cwd(t, p, "/a")
	is(t, "root may", r.Chdir("/shut/in"), api.OK)
	cwd(t, r, "/shut/in")
}

// Away from a directory whose name is gone: it is freed then.
func TestChdirAway(t *testing.T) {
	p := made(t)
	mkdir(t, p, "/d", "/e")
	d := inode(t, p.FS(), "/d")
	good(t, "Chdir", p.Chdir("/d"))
	good(t, "Rmdir", p.Rmdir("/d"))
	uses(t, "it is held", p.FS(), d, true)
	is(t, "what is not there", p.Chdir("/no"), api.ENOENT)
	uses(t, "it is held", p.FS(), d, true)
	is(t, "what is gone leads to . alone", p.Chdir(".."), api.ENOENT)
	is(t, "it is there still", p.Chdir("."), api.OK)
	heldBy(t, "once", p.FS(), d, 1)
	is(t, "nothing can be made in it", p.Mkdir("x", 0o755), api.ENOENT)
	fd := open(t, p, ".", rd)
	is(t, "away", p.Chdir("/e"), api.OK)
	uses(t, "a descriptor leads to it", p.FS(), d, true)
	good(t, "Close", p.Close(fd))
	uses(t, "away", p.FS(), d, false)
	cwd(t, p, "/e")
}

func TestGetcwd(t *testing.T) {
	p := made(t)
	cwd(t, p, "/")
	mkdir(t, p, "/a", "/a/b", "/a/b/c", "/z")
	good(t, "Chdir", p.Chdir("/a/b/c"))
	cwd(t, p, "/a/b/c")
	good(t, "Rename", p.Rename("/a", "/z/moved")) // one above it
	cwd(t, p, "/z/moved/b/c")
	good(t, "Rename", p.Rename("/z/moved/b/c", "/top"))
	cwd(t, p, "/top")
	good(t, "Rename", p.Rename("/top", "/z/top"))
	good(t, "Rename", p.Rename("/z", "/y"))
	cwd(t, p, "/y/top")
	q := proc(t, p.FS(), ann)
	good(t, "Chdir", q.Chdir("/y/top"))
	good(t, "Chmod", p.Chmod("/y", 0))
	cwd(t, q, "/y/top") // no right is asked
	good(t, "Rmdir", p.Rmdir("../top"))
	for _, x := range []*desc.Proc{p, q} {
		got, e := x.Getcwd()
		same(t, "one that is gone", fmt.Sprint(got, e), fmt.Sprint("", api.ENOENT))
	}
	mkdir(t, p, "/y/top") // another one of that name
	_, e := p.Getcwd()
	is(t, "another one of that name", e, api.ENOENT)
}

// Deep below: longer than a path may be.
func TestGetcwdDeep(t *testing.T) {
	p := made(t)
	want := ""
	for i := range 14 {
		name := strings.Repeat(string(rune('a'+i)), api.NameMax)
		mkdir(t, p, name)
		good(t, "Chdir", p.Chdir(name))
		want += "/" + name
		cwd(t, p, want)
	}
	same(t, "long", len(want) > api.PathMax, true)
}

// P7.8: Umask.

func TestUmask(t *testing.T) {
	p := proc(t, store(t, 64, 40), api.Cred{Umask: 0o027})
	was := api.Mode(0o027)
	for i, v := range []struct{ m, want api.Mode }{
		{0, 0}, {0o022, 0o022}, {0o777, 0o777}, {0o1000, 0}, {0o7022, 0o022}, {api.TypeDir | 0o70, 0o70}, {-1, 0o777}, {math.MinInt, 0}, {math.MaxInt, 0o777}, {math.MinInt | 5, 5},
	} {
		same(t, "the former ones", p.Umask(v.m), was)
		was = v.want
		same(t, "Cred", p.Cred().Umask, int(was))
		f, d := fmt.Sprint("/f", i), fmt.Sprint("/d", i)
		fd, e := p.Open(f, wr|create, 0o7777)
		good(t, "Open", e)
		good(t, "Close", p.Close(fd))
		good(t, "Mkdir", p.Mkdir(d, 0o7777))
		st, _ := p.Stat(f)
		same(t, "Open's", st.Mode, api.TypeReg|0o7777&^was)
		st, _ = p.Stat(d)
		same(t, "Mkdir's", st.Mode, api.TypeDir|0o7777&^was)
	}
	good(t, "Chmod", p.Chmod("/f0", 0o666)) // has nothing to do with it
	st, _ := p.Stat("/f0")
	same(t, "Chmod's", st.Mode, api.TypeReg|0o666)
}

// P7.8: the other calls are tree's, with the process' Cred. Of each one that
// Cred lets, and one that it does not; relative paths, so that Cwd counts.
func TestOtherCalls(t *testing.T) {
	fs := store(t, 100, 30)
	r := proc(t, fs, root)
	mkdir(t, r, "/d", "/d/in")
	good(t, "Chown", r.Chown("/d", 7, 82, true))
	good(t, "Chmod", r.Chmod("/d", 0o775))
	file(t, r, "/d/f", "text")
	good(t, "Chown", r.Chown("/d/f", 7, 82, true))
	good(t, "Symlink", r.Symlink("f", "/d/l"))
	d := inode(t, fs, "/d")
	owner, member, other := proc(t, fs, in(ann, d)), proc(t, fs, in(bob, d)), proc(t, fs, in(api.Cred{Uid: 9, Gid: 9}, d))
	fs.Clock(50)

	is(t, "Mkdir", other.Mkdir("x", 0o755), api.EACCES)
	is(t, "Mkdir", member.Mkdir("x", 0o755), api.OK) // by one of Groups
	st, e := fs.Stat(root, "/d/x", false)
	same(t, "whose", fmt.Sprint(st.Uid, st.Gid, st.Mtime, e), fmt.Sprint(8, 80, 50, api.OK))
	is(t, "Rmdir", other.Rmdir("x"), api.EACCES)
	is(t, "Rmdir", owner.Rmdir("x"), api.OK)
	is(t, "Link", other.Link("f", "g"), api.EACCES)
	is(t, "Link", owner.Link("f", "g"), api.OK)
	is(t, "Link", owner.Link("no", "h"), api.ENOENT)
	same(t, "Link", inode(t, fs, "/d/g"), inode(t, fs, "/d/f"))
	is(t, "Rename", other.Rename("g", "h"), api.EACCES)
	is(t, "Rename", member.Rename("g", "h"), api.OK)
	same(t, "Rename", inode(t, fs, "/d/h"), inode(t, fs, "/d/f"))
	is(t, "Unlink", other.Unlink("h"), api.EACCES)
	is(t, "Unlink", member.Unlink("h"), api.OK)
	is(t, "Unlink", member.Unlink("h"), api.ENOENT)
	is(t, "Symlink", other.Symlink("f", "s"), api.EACCES)
	is(t, "Symlink", member.Symlink("to/what", "s"), api.OK)
	s, e := other.Readlink("s")
	same(t, "Readlink", fmt.Sprint(s, e), fmt.Sprint("to/what", api.OK))
	s, e = other.Readlink("f")
	same(t, "Readlink", fmt.Sprint(s, e), fmt.Sprint("", api.EINVAL))

	is(t, "Chmod", member.Chmod("f", 0o600), api.EPERM)
	is(t, "Chmod", owner.Chmod("l", 0o4640), api.OK)
	is(t, "Access", other.Access("f", 4), api.EACCES)
	is(t, "Access", member.Access("l", 4), api.OK)
	is(t, "Access", member.Access("f", 2), api.EACCES)
	is(t, "Access", owner.Access("f", 6), api.OK)
	is(t, "Access", owner.Access("f", 8), api.EINVAL)
	is(t, "Truncate", member.Truncate("f", 2), api.EACCES)
	is(t, "Truncate", owner.Truncate("l", 2), api.OK)
	holds(t, owner, "/d/f", "te")
	is(t, "Utime", member.Utime("f", 1, 2, true), api.EPERM)
	is(t, "Utime", owner.Utime("l", 3, 4, true), api.OK)
	is(t, "Utime", owner.Utime("l", 3, 4, false), api.EPERM) // the link is root's
	is(t, "Chown", owner.Chown("f", -1, 5, true), api.EPERM)
	is(t, "Chown", owner.Chown("l", -1, 70, true), api.OK)
	is(t, "Chown", r.Chown("/d/l", 6, 60, false), api.OK)

	st, e = other.Stat("l")
	same(t, "Stat", fmt.Sprintf("%+v %v", st, e), fmt.Sprintf("%+v %v", api.Stat{Ino: inode(t, fs, "/d/f"), Links: 1, Uid: 7, Gid: 70, Size: 2, Blocks: 1, Mode: api.TypeReg | 0o640, Atime: 3, Mtime: 4, Ctime: 50}, api.OK))
	st, e = other.Lstat("l")
	same(t, "Lstat", fmt.Sprintf("%+v %v", st, e), fmt.Sprintf("%+v %v", api.Stat{Ino: inode(t, fs, "/d/l"), Links: 1, Uid: 6, Gid: 60, Size: 1, Blocks: 1, Mode: api.TypeLink | 0o777, Ctime: 50}, api.OK))
	st, e = other.Lstat("f")
	same(t, "Lstat of a file", fmt.Sprint(st.Size, e), fmt.Sprint(2, api.OK))
	_, e = other.Stat("s")
	is(t, "Stat", e, api.ENOENT)
	_, e = other.Lstat("s")
	is(t, "Lstat", e, api.OK)
	good(t, "Chmod", r.Chmod("/d", 0o700))
	_, e = other.Stat("f")
	is(t, "Stat", e, api.EACCES)
	_, e = other.Lstat("f")
	is(t, "Lstat", e, api.EACCES)
	_, e = other.Readlink("s")
	is(t, "Readlink", e, api.EACCES)

	all, left, inodes, spare := owner.Statfs()
	a, l, i, sp := fs.Statfs()
	same(t, "Statfs", []int{all, left, inodes, spare}, []int{a, l, i, sp})
	same(t, "Statfs", []int{all, inodes}, []int{100, 30})
}
