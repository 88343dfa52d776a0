package tree_test

import (
	"fmt"
	"math"
	"strings"
	"testing"

	"tinsel/api"
)

// Short names for flags.
const (
	r  = api.Read
	w  = api.Write
	rw = r | w
	cr = api.Create
	ex = api.Excl
)

// P6.11

// Which flags may stand together: each number, and what lies beyond.
func TestOpenFlags(t *testing.T) {
	f := small(t)
	for flags := range 256 {
		on := func(bit int) bool { return flags/bit%2 == 1 }
		bad := !on(1) && !on(2) || on(4) && !on(2) || on(32) && !on(2) || on(64) && on(8)
		for _, p := range []string{"", "/f/x", "/no/x", letters(28), "/f", "/a", "/"} { // ahead of all of the path's errors
			_, e := f.Copy().Open(root, p, flags, 0o644)
			if (e == api.EINVAL) != bad {
				t.Errorf("Open %s, %#o: %v", brief(p), flags, e)
			}
		}
	}
	for _, flags := range []int{0, -1, 256, 257, 258, 256 | rw | cr, 1 << 40, math.MaxInt, math.MinInt, math.MinInt | r, -256 | r} {
		noOpen(t, f, root, "/f", flags, api.EINVAL)
		noOpen(t, f, root, "", flags, api.EINVAL)
	}
	same(t, "no hold", holds(f, rf), 0)
}

func TestOpenWhatIsThere(t *testing.T) {
	f := small(t)
	symlink(t, f, "f", "/l")
	for _, flags := range []int{r, w, rw, w | api.Append, rw | api.Append, r | cr, w | cr, r | api.NoFollow, r | ex, w | ex} {
		was := picture(f)
		ino, e := f.Open(root, "/f", flags, 0)
		if ino != rf || e != api.OK {
			t.Errorf("Open %d: %d, %v", flags, ino, e)
		}
		same(t, "held", holds(f, rf), 1)
		again, e := f.Open(root, "/a/../f", flags, 0)
		same(t, "once more", []int{again, int(e), holds(f, rf)}, []int{rf, 0, 2})
		good(t, "Release", f.Release(ino))
		good(t, "Release", f.Release(ino))
		unchanged(t, "Open", f, was)
		if flags&api.NoFollow == 0 {
			opens(t, f, root, "/l", flags, 0, rf)
		}
	}
	for _, p := range []string{"/a", "/a/", "/", ".", "..", "/a/."} {
		for _, flags := range []int{r, r | api.DirOnly, r | api.NoFollow, r | api.DirOnly | api.NoFollow | ex} {
			opens(t, f, root, p, flags, 0, inode(t, f, p))
		}
		for _, flags := range []int{w, rw, r | cr, w | api.Trunc, w | api.DirOnly, w | cr, w | api.Append} {
			noOpen(t, f, root, p, flags, api.EISDIR)
		}
		noOpen(t, f, root, p, r|cr|ex, api.EEXIST)
		noOpen(t, f, root, p, w|cr|ex, api.EEXIST)
	}
	for _, flags := range []int{r, w, rw, rw | api.Trunc} {
		noOpen(t, f, root, "/f", flags|api.DirOnly, api.ENOTDIR)
		noOpen(t, f, root, "/l", flags|api.DirOnly, api.ENOTDIR)
		noOpen(t, f, root, "/f/", flags, api.ENOTDIR)
	}
	b, _ := f.ReadAt(rf, 0, 99)
	same(t, "not truncated", string(b), "in the root")
}

func TestOpenTrunc(t *testing.T) {
	f := small(t)
	symlink(t, f, "f", "/l")
	blocks, inodes := spare(f)
	f.Clock(9)
	opens(t, f, root, "/l", w|api.Trunc, 0, rf)
	same(t, "truncated", stat(t, f, "/f"), api.Stat{Ino: rf, Links: 1, Mode: api.TypeReg | 0o644, Mtime: 9, Ctime: 9})
	room(t, "its block is free", f, blocks+1, inodes)
	f.Clock(10)
	opens(t, f, root, "/f", rw|cr|api.Trunc, 0, rf)
	same(t, "empty already", stat(t, f, "/f"), api.Stat{Ino: rf, Links: 1, Mode: api.TypeReg | 0o644, Mtime: 10, Ctime: 10})
	refused(t, "not by ann", f, api.EACCES, func() api.Errno { _, e := f.Open(ann, "/a/f", w|api.Trunc, 0); return e })
	refused(t, "not with Excl", f, api.EEXIST, func() api.Errno { _, e := f.Open(root, "/a/f", w|api.Trunc|cr|ex, 0); return e })
	sound(t, "Trunc", f)
}

func TestOpenPermissions(t *testing.T) {
	f := made(t, 30, 9)
	file(t, f, "/f", "text")
	mkdir(t, f, "/d")
	for _, p := range []string{"/f", "/d"} {
		good(t, "Chown", f.Chown(root, p, 7, 80, true))
	}
	for mode := range api.Mode(512) {
		chmod(t, f, "/f", mode)
		for shift, c := range map[int]api.Cred{6: ann, 3: bob, 0: {Uid: 9, Gid: 9}} {
			for _, flags := range []int{r, w, rw} {
				want := api.OK
				if flags&r != 0 && mode>>shift&4 == 0 || flags&w != 0 && mode>>shift&2 == 0 {
					want = api.EACCES
				}
				ino, e := f.Open(c, "/f", flags, 0)
				is(t, fmt.Sprintf("Open %o by %d, %d", mode, c.Uid, flags), e, want)
				if e == api.OK {
					good(t, "Release", f.Release(ino))
				} else {
					same(t, "beside an error", ino, 0)
				}
			}
		}
		opens(t, f, root, "/f", rw, 0, 2)
	}
	chmod(t, f, "/d", 0o370)
	noOpen(t, f, ann, "/d", r, api.EACCES)
	noOpen(t, f, ann, "/d", w, api.EISDIR) // ahead of EACCES
	noOpen(t, f, ann, "/f", r|api.DirOnly, api.ENOTDIR)
	opens(t, f, bob, "/d", r, 0, 3)
	same(t, "holds", []int{holds(f, 2), holds(f, 3)}, []int{0, 0})
}

func TestOpenCreates(t *testing.T) {
	f := small(t)
	f.Clock(9)
	chmod(t, f, "/a", 0o777)
	for k, flags := range []int{r | cr, w | cr, rw | cr, w | cr | ex, w | cr | api.Trunc, rw | cr | api.Append | api.Trunc, w | cr | api.NoFollow, r | cr | ex | api.NoFollow} {
		p := fmt.Sprint("/a/new", k)
		ino, e := f.Open(masked(bob, 0o777), p, flags, 0o777) // what it may not do with it is not asked
		good(t, "Open", e)
		same(t, "the lowest inode", ino, 7+k)
		same(t, p, stat(t, f, p), api.Stat{Ino: ino, Links: 1, Uid: 8, Gid: 80, Mode: api.TypeReg, Atime: 9, Mtime: 9, Ctime: 9})
		same(t, "held", holds(f, ino), 1)
		good(t, "Release", f.Release(ino))
		leads(t, f, root, p, ino)
		sound(t, p, f)
	}
	d := stat(t, f, "/a")
	same(t, "D", []int64{d.Mtime, d.Ctime, int64(d.Links)}, []int64{9, 9, 3})
	ino, e := f.Open(in(root, ab), "x", w|cr, 0o644)
	good(t, "Open", e)
	leads(t, f, root, "/a/b/x", ino)
	good(t, "Unlink", f.Unlink(root, "/a/b/x"))
	same(t, "still there", info(t, f, ino).Links, 0)
	good(t, "Release", f.Release(ino))
	sound(t, "Open", f)
}

func TestOpenMissing(t *testing.T) {
	f := small(t)
	for _, flags := range []int{r, w, rw, w | api.Trunc, r | ex, r | api.NoFollow, r | api.DirOnly} {
		for _, p := range []string{"/no", "/no/", "/a/no", "no", "/no/no", "/no/.", ""} {
			noOpen(t, f, root, p, flags, api.ENOENT)
		}
	}
	was := picture(f)
	for _, flags := range []int{r | cr, w | cr, w | cr | ex, w | cr | api.NoFollow} {
		for p, want := range map[string]api.Errno{
			"/no/": api.EISDIR, "/a/no//": api.EISDIR, "/no/no": api.ENOENT, "/no/..": api.ENOENT, "/no/.": api.ENOENT, "": api.ENOENT,
			"/f/no": api.ENOTDIR, "/f/": api.ENOTDIR, letters(28): api.ENAMETOOLONG, "/f\x00": api.EINVAL,
		} {
			noOpen(t, f, root, p, flags, want)
		}
		noOpen(t, f, ann, "/no/", flags, api.EISDIR) // ahead of EACCES
		noOpen(t, f, ann, "/no", flags, api.EACCES)
		noOpen(t, f, in(root, -5), "no", flags, api.ENOENT)
		noOpen(t, f, in(root, rf), "no", flags, api.ENOTDIR)
	}
	unchanged(t, "refused", f, was)
	chmod(t, f, "/a", 0o776)
	noOpen(t, f, ann, "/a/no", w|cr, api.EACCES)
	noOpen(t, f, ann, "/a/no/", w|cr, api.EACCES) // it may not even be searched
}

func TestOpenLinks(t *testing.T) {
	f := small(t)
	for _, l := range [][2]string{{"f", "/lf"}, {"a", "/la"}, {"a/new", "/dangle"}, {"a/new2/", "/dangles"}, {"no/new", "/gap"}, {"x", "/x"}, {"dangle", "/to-dangle"}, {"/a/b/new3", "/a/abs"}} {
		symlink(t, f, l[0], l[1])
	}
	was := picture(f)
	for _, p := range []string{"/lf", "/la", "/dangle", "/x", "/gap"} {
		for _, flags := range []int{r, w, rw, r | api.DirOnly, w | api.Trunc, r | cr, w | cr} {
			noOpen(t, f, root, p, flags|api.NoFollow, api.ELOOP)
			noOpen(t, f, ann, p, flags|api.NoFollow, api.ELOOP)
		}
		for _, flags := range []int{r | cr | ex, w | cr | ex, w | cr | ex | api.NoFollow, w | cr | ex | api.Trunc} {
			noOpen(t, f, root, p, flags, api.EEXIST)
			noOpen(t, f, ann, p, flags, api.EEXIST)
		}
	}
	for _, flags := range []int{r, r | cr, w, w | cr} {
		noOpen(t, f, root, "/x", flags, api.ELOOP)
		noOpen(t, f, root, "/gap", flags, api.ENOENT)
		noOpen(t, f, root, "/lf/", flags, api.ENOTDIR)
		noOpen(t, f, root, "/x/", flags, api.ELOOP)
	}
	for _, flags := range []int{r, r | api.NoFollow, r | api.DirOnly, r | api.DirOnly | api.NoFollow, r | ex} { // a slash is stronger than NoFollow
		opens(t, f, root, "/la/", flags, 0, a)
	}
	noOpen(t, f, root, "/la/", r|cr|ex, api.EEXIST)
	noOpen(t, f, root, "/la/", r|cr, api.EISDIR)
	noOpen(t, f, root, "/la", r|cr, api.EISDIR)
	noOpen(t, f, root, "/lf/", r|cr|ex, api.ENOTDIR)
	noOpen(t, f, root, "/dangles", w|cr, api.EISDIR)
	noOpen(t, f, root, "/dangle/", w|cr, api.EISDIR)
	noOpen(t, f, root, "/dangle/", w|cr|ex, api.EISDIR)
	noOpen(t, f, root, "/dangle/", w|cr|api.NoFollow, api.EISDIR)
	noOpen(t, f, ann, "/dangle", w|cr, api.EACCES)
	noOpen(t, f, root, "/dangle", w, api.ENOENT)
	unchanged(t, "refused", f, was)
	// A link to nothing: the file is made where it leads to.
	ino, e := f.Open(root, "/to-dangle", w|cr, 0o644)
	good(t, "Open", e)
	leads(t, f, root, "/a/new", ino)
	opens(t, f, root, "/dangle", w|cr, 0, ino)
	ino, e = f.Open(root, "/a/abs", w|cr, 0o644)
	good(t, "Open", e)
	leads(t, f, root, "/a/b/new3", ino)
	sound(t, "links", f)
}

// In a chain of SymMax links to nothing a file is made; in a longer one not.
func TestOpenSymMax(t *testing.T) {
	f := small(t)
	symlink(t, f, "new", "/l1")
	for k := 2; k <= 9; k++ {
		symlink(t, f, fmt.Sprint("l", k-1), fmt.Sprint("/l", k))
	}
	refused(t, "nine", f, api.ELOOP, func() api.Errno { _, e := f.Open(root, "/l9", w|cr, 0o644); return e })
	ino, e := f.Open(root, "/l8", w|cr, 0o644)
	good(t, "eight", e)
	leads(t, f, root, "/new", ino)
}

// P6.12

func TestDir(t *testing.T) {
	f := small(t)
	symlink(t, f, "a", "/l")
	symlink(t, f, "f", "/lf")
	symlink(t, f, "no", "/gone")
	for p, want := range map[string]int{"/": top, "/a": a, "/a/": a, "/l": a, "/l/": a, "/l/b": ab, ".": top, "..": top, "/a/b/c/..": ab} {
		for n := range 3 {
			if got, e := f.Dir(ann, p); got != want || e != api.OK {
				t.Errorf("Dir %s: %d, %v, want %d", p, got, e, want)
			}
			same(t, "holds", holds(f, want), n+1)
		}
		for range 3 {
			good(t, "Release", f.Release(want))
		}
	}
	chmod(t, f, "/a/b", 0o666)
	was := picture(f)
	for p, want := range map[string]api.Errno{
		"/f": api.ENOTDIR, "/lf": api.ENOTDIR, "/f/": api.ENOTDIR, "/no": api.ENOENT, "/gone": api.ENOENT, "": api.ENOENT, letters(28): api.ENAMETOOLONG, "\x00": api.EINVAL, "/a/b": api.EACCES, "/l/b/": api.EACCES, "/a/b/c": api.EACCES,
	} {
		if got, e := f.Dir(ann, p); got != 0 || e != want {
			t.Errorf("Dir %s: %d, %v, want %v", brief(p), got, e, want)
		}
	}
	unchanged(t, "refused", f, was)
	chmod(t, f, "/a/b", 0)
	ino, e := f.Dir(root, "/a/b")
	same(t, "root", []int{ino, int(e)}, []int{ab, 0})
}

// noInodes: numbers that are not in use in small.
var noInodes = []int{0, 7, 40, 41, 4096, 4097, -1, -2, math.MaxInt32, math.MinInt32, math.MaxInt, math.MinInt, 1 << 32, 1<<32 + 1}

func TestHoldAndRelease(t *testing.T) {
	f := small(t)
	symlink(t, f, "f", "/l")
	l := inode(t, f, "/l")
	was := picture(f)
	for _, ino := range []int{top, a, rf, l} {
		refused(t, "Release", f, api.EINVAL, func() api.Errno { return f.Release(ino) })
		for range 3 {
			is(t, "Hold", f.Hold(ino), api.OK)
		}
		same(t, "holds", holds(f, ino), 3)
		for range 3 {
			is(t, "Release", f.Release(ino), api.OK)
		}
		refused(t, "Release", f, api.EINVAL, func() api.Errno { return f.Release(ino) })
	}
	unchanged(t, "held and let go", f, was)
	for _, ino := range noInodes {
		if ino != l {
			refused(t, "Hold", f, api.ENOENT, func() api.Errno { return f.Hold(ino) })
			refused(t, "Release", f, api.ENOENT, func() api.Errno { return f.Release(ino) })
		}
	}
}

func TestInfoAndOwned(t *testing.T) {
	f := small(t)
	write(t, f, rf, 384, "x")
	for ino, p := range map[int]string{top: "/", a: "/a", ab: "/a/b", af: "/a/f", rf: "/f"} {
		same(t, p, info(t, f, ino), stat(t, f, p))
		o, e := f.Owned(ino)
		same(t, p, []int{len(o), int(e)}, []int{stat(t, f, p).Blocks, 0})
	}
	same(t, "with an indirect one", stat(t, f, "/f").Blocks, 3)
	for _, ino := range noInodes {
		if st, e := f.Info(ino); st != (api.Stat{}) || e != api.ENOENT {
			t.Errorf("Info(%d): %+v, %v", ino, st, e)
		}
		if o, e := f.Owned(ino); len(o) != 0 || e != api.ENOENT {
			t.Errorf("Owned(%d): %v, %v", ino, o, e)
		}
	}
}

// P6.13

func TestBytes(t *testing.T) {
	f := small(t)
	f.Clock(9)
	n, e := f.WriteAt(rf, 3, []byte("ABC"))
	same(t, "WriteAt", []int{n, int(e)}, []int{3, 0})
	b, e := f.ReadAt(rf, 1, 6)
	same(t, "ReadAt", fmt.Sprint(string(b), int(e)), "n ABC 0")
	b, e = f.ReadAt(rf, 8, 100)
	same(t, "to the end", fmt.Sprint(string(b), int(e)), "oot0")
	b, e = f.ReadAt(rf, 11, 100)
	same(t, "behind it", fmt.Sprint(len(b), int(e)), "0 0")
	n, e = f.WriteAt(rf, 17790, []byte("ABC"))
	same(t, "a short one", []int{n, int(e)}, []int{2, 0})
	same(t, "size", stat(t, f, "/f").Size, 17792)
	is(t, "Resize", f.Resize(rf, 4), api.OK)
	b, _ = f.ReadAt(rf, 0, 100)
	same(t, "Resize", string(b), "in A")
	same(t, "times", []int64{stat(t, f, "/f").Mtime, stat(t, f, "/f").Ctime}, []int64{9, 9})
	n, e = f.WriteAt(rf, 0, nil)
	same(t, "nothing", []int{n, int(e)}, []int{0, 0})
	sound(t, "bytes", f)
}

func TestBytesRefused(t *testing.T) {
	f := small(t)
	symlink(t, f, "f", "/l")
	was := picture(f)
	check := func(ino, off, n int, read, write, resize api.Errno) {
		t.Helper()
		what := fmt.Sprintf("of %d, %d, %d", ino, off, n)
		if b, e := f.ReadAt(ino, off, n); len(b) != 0 || e != read {
			t.Errorf("ReadAt %s: %q, %v, want %v", what, b, e, read)
		}
		if got, e := f.WriteAt(ino, off, []byte("text")); got != 0 || e != write {
			t.Errorf("WriteAt %s: %d, %v, want %v", what, got, e, write)
		}
		is(t, "Resize "+what, f.Resize(ino, off), resize)
	}
	for _, off := range []int{0, -1, 17793, math.MaxInt, math.MinInt} {
		for _, n := range []int{0, 5, -1, math.MaxInt, math.MinInt} {
			for _, ino := range noInodes {
				if ino != 7 { // here the link
					check(ino, off, n, api.ENOENT, api.ENOENT, api.ENOENT)
				}
			}
			check(top, off, n, api.EISDIR, api.EISDIR, api.EISDIR)
			check(abc, off, n, api.EISDIR, api.EISDIR, api.EISDIR)
			check(7, off, n, api.EINVAL, api.EINVAL, api.EINVAL)
		}
	}
	check(rf, -1, 5, api.EINVAL, api.EINVAL, api.EINVAL)
	check(rf, math.MinInt, math.MinInt, api.EINVAL, api.EINVAL, api.EINVAL)
	check(rf, 17793, -1, api.EINVAL, api.EFBIG, api.EFBIG)
	check(rf, math.MaxInt, math.MaxInt, api.OK, api.EFBIG, api.EFBIG)
	unchanged(t, "refused", f, was)
}

func TestBytesNoRoom(t *testing.T) {
	f := made(t, 4, 4)
	ino := file(t, f, "/f", "")
	n, e := f.WriteAt(ino, 0, []byte(strings.Repeat("x", 200)))
	same(t, "as far as there is room", []int{n, int(e)}, []int{128, 0})
	refused(t, "none", f, api.ENOSPC, func() api.Errno {
		n, e := f.WriteAt(ino, 128, []byte("x"))
		same(t, "beside it", n, 0)
		return e
	})
	sound(t, "no room", f)
}

func TestEntries(t *testing.T) {
	f := small(t)
	symlink(t, f, "f", "/l")
	l, e := f.Entries(top)
	same(t, "Entries", fmt.Sprint(l, int(e)), fmt.Sprint([]api.Entry{{Name: ".", Ino: 1, Kind: api.TypeDir}, {Name: "..", Ino: 1, Kind: api.TypeDir},
		{Name: "a", Ino: a, Kind: api.TypeDir}, {Name: "f", Ino: rf, Kind: api.TypeReg}, {Name: "l", Ino: 7, Kind: api.TypeLink}}, 0))
	good(t, "Unlink", f.Unlink(root, "/f"))
	same(t, "one went", names(t, f, "/"), ".=1 ..=1 a=2 l=7")
	mkdir(t, f, "/new")
	same(t, "its slot", names(t, f, "/"), ".=1 ..=1 a=2 new=6 l=7")
	for _, ino := range []int{af, 7} {
		if l, e := f.Entries(ino); len(l) != 0 || e != api.ENOTDIR {
			t.Errorf("Entries(%d): %v, %v", ino, l, e)
		}
	}
	for _, ino := range noInodes {
		if l, e := f.Entries(ino); ino != 7 && (len(l) != 0 || e != api.ENOENT) {
			t.Errorf("Entries(%d): %v, %v", ino, l, e)
		}
	}
}

// P6.14

func TestPath(t *testing.T) {
	f := small(t)
	symlink(t, f, "a", "/l")
	told := func(ino int, want string) {
		t.Helper()
		if got, e := f.Path(ino); got != want || e != api.OK {
			t.Errorf("Path(%d): %s, %v, want %s", ino, brief(got), e, brief(want))
		}
	}
	not := func(ino int, want api.Errno) {
		t.Helper()
		if got, e := f.Path(ino); got != "" || e != want {
			t.Errorf("Path(%d): %s, %v, want %v", ino, brief(got), e, want)
		}
	}
	told(top, "/")
	told(a, "/a")
	told(ab, "/a/b")
	told(abc, "/a/b/c")
	not(af, api.ENOTDIR)
	not(rf, api.ENOTDIR)
	not(7, api.ENOTDIR)
	for _, ino := range noInodes {
		if ino != 7 {
			not(ino, api.ENOENT)
		}
	}
	good(t, "Rename", f.Rename(root, "/a/b", "/moved"))
	told(ab, "/moved")
	told(abc, "/moved/c")
	good(t, "Rename", f.Rename(root, "/moved", "/a/x"))
	told(abc, "/a/x/c")
	chmod(t, f, "/a", 0)
	told(abc, "/a/x/c")
	good(t, "Hold", f.Hold(abc))
	good(t, "Rmdir", f.Rmdir(root, "/a/x/c"))
	not(abc, api.ENOENT)
	good(t, "Release", f.Release(abc))
	not(abc, api.ENOENT)
	// A file without a name is no directory still.
	good(t, "Hold", f.Hold(rf))
	good(t, "Unlink", f.Unlink(root, "/f"))
	not(rf, api.ENOTDIR)
}

// A path may be longer than any that a call takes.
func TestPathDeep(t *testing.T) {
	f := made(t, 400, 110)
	c, want, at := root, "", []int{top}
	for range 100 {
		good(t, "Mkdir", f.Mkdir(c, letters(27), 0o755))
		ino, e := f.Resolve(c, letters(27), true)
		good(t, "Resolve", e)
		c, want, at = in(c, ino), want+"/"+letters(27), append(at, ino)
	}
	p, e := f.Path(c.Cwd)
	same(t, "deep", fmt.Sprint(p, int(e)), want+"0")
	leads(t, f, c, strings.Repeat("../", 85), at[15])
	refused(t, "into the deepest", f, api.EINVAL, func() api.Errno { return f.Rename(c, "/"+letters(27), "x") })
	sound(t, "deep", f)
}
