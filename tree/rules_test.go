package tree_test

import (
	"fmt"
	"math"
	"slices"
	"strings"
	"sync"
	"testing"

	"tinsel/api"
	"tinsel/tree"
)

// The chapter's examples.
func TestExamples(t *testing.T) {
	f := made(t, 64, 16)
	is(t, "Mkdir", f.Mkdir(root, "/a", 0o755), api.OK)
	is(t, "Symlink", f.Symlink(root, "a", "/l"), api.OK)
	is(t, "Mkdir", f.Mkdir(root, "/l/b", 0o755), api.OK)
	b := inode(t, f, "/a/b")
	is(t, "Rmdir", f.Rmdir(root, "/l/"), api.ENOTDIR)
	is(t, "Unlink", f.Unlink(root, "/a"), api.EISDIR)
	is(t, "Rename", f.Rename(root, "/a", "/a/b/c"), api.EINVAL)
	is(t, "Symlink", f.Symlink(root, "x", "/x"), api.OK)
	nowhere(t, f, root, "/x", true, api.ELOOP)
	is(t, "Link", f.Link(root, "/a", "/b"), api.EPERM)
	is(t, "Rename", f.Rename(root, "/l", "/a"), api.EISDIR)
	is(t, "Rename", f.Rename(root, "/a", "/l"), api.ENOTDIR)
	noOpen(t, f, root, "/n/", api.Create+api.Write, api.EISDIR)
	p, e := f.Path(b)
	same(t, "Path", fmt.Sprint(p, int(e)), "/a/b0")
	sound(t, "examples", f)
}

// odd: paths, good ones and wrong ones.
var odd = []string{"", "/", ".", "..", "/a", "/a/b/c/", "no", "/no/x", "/f/x", "\x00", "/\xff\n", letters(28), strings.Repeat("/", 255), strings.Repeat("/", 256), strings.Repeat("a", 5000)}

// numbers: at their ends, and some between.
var numbers = []int{0, 1, 2, -1, -2, 7, 63, 255, 256, math.MaxInt, math.MinInt, math.MaxInt32, math.MinInt32, 1 << 32}

// each: all calls that answer an error, with any arguments; what they answered.
func each(f *tree.FS, c api.Cred, see func(what string, answer any, e api.Errno)) {
	for i, p := range odd {
		n := numbers[i%len(numbers)]
		for _, follow := range []bool{true, false} {
			ino, e := f.Resolve(c, p, follow)
			see("Resolve", ino, e)
			st, e := f.Stat(c, p, follow)
			see("Stat", st, e)
			see("Chown", 0, f.Chown(c, p, n, -1, follow))
			see("Utime", 0, f.Utime(c, p, math.MinInt64, math.MaxInt64, follow))
		}
		see("Access", 0, f.Access(c, p, n))
		s, e := f.Readlink(c, p)
		see("Readlink", s, e)
		see("Mkdir", 0, f.Mkdir(c, p, api.Mode(n)))
		see("Rmdir", 0, f.Rmdir(c, p))
		see("Unlink", 0, f.Unlink(c, p))
		see("Chmod", 0, f.Chmod(c, p, api.Mode(n)))
		see("Truncate", 0, f.Truncate(c, p, n))
		ino, e := f.Dir(c, p)
		see("Dir", ino, e)
		for _, n := range numbers {
			ino, e := f.Open(c, p, n, api.Mode(n))
			see("Open", ino, e)
		}
		for _, q := range odd {
			see("Symlink", 0, f.Symlink(c, p, q))
			see("Link", 0, f.Link(c, p, q))
			see("Rename", 0, f.Rename(c, p, q))
		}
	}
	for _, n := range numbers {
		see("Hold", 0, f.Hold(n))
		see("Release", 0, f.Release(n))
		st, e := f.Info(n)
		see("Info", st, e)
		l, e := f.Entries(n)
		see("Entries", len(l), e)
		p, e := f.Path(n)
		see("Path", p, e)
		o, e := f.Owned(n)
		see("Owned", len(o), e)
		for _, m := range numbers {
			see("Resize", 0, f.Resize(n, m))
			k, e := f.WriteAt(n, m, []byte("text"))
			see("WriteAt", k, e)
			for _, k := range numbers {
				b, e := f.ReadAt(n, m, k)
				see("ReadAt", len(b), e)
			}
		}
	}
}

// isZero: is an answer a zero value?
func isZero(answer any) bool { return answer == 0 || answer == "" || answer == api.Stat{} }

// R1, R2, R5: of a file system that no call made all is EFAULT, ahead of all else.
func TestNoFileSystem(t *testing.T) {
	for _, f := range []*tree.FS{nil, {}, new(tree.FS)} {
		for _, c := range []api.Cred{root, ann, in(root, -1), {Uid: -1, Gid: -1, Umask: -1}} {
			each(f, c, func(what string, answer any, e api.Errno) {
				if !isZero(answer) || e != api.EFAULT {
					t.Errorf("%s: %v, %v", what, answer, e)
				}
			})
		}
		f.Clock(5)
		all, left, inodes, spare := f.Statfs()
		same(t, "Statfs", []int{all, left, inodes, spare}, []int{0, 0, 0, 0})
		if f.Copy() != nil || f.Now() != 0 || len(f.Used()) != 0 || len(f.Inodes()) != 0 {
			t.Errorf("%v, %d, %v, %v", f.Copy(), f.Now(), f.Used(), f.Inodes())
		}
	}
	if f := new(tree.FS); *f != (tree.FS{}) {
		t.Error("a zero value has changed")
	}
}

// R1, R2: whatever a call is given, it ends; beside an error there is nothing, and it has changed nothing.
func TestAnyArguments(t *testing.T) {
	for _, c := range []api.Cred{root, ann, in(root, a), in(bob, -1), in(ann, math.MaxInt), in(root, af), {Umask: math.MinInt}, {Uid: -5, Gid: -6, Umask: -1}, {Uid: math.MaxInt, Gid: math.MaxInt, Groups: []int{math.MinInt}}} {
		f := small(t)
		was := picture(f)
		each(f, c, func(what string, answer any, e api.Errno) {
			now := picture(f)
			if e != api.OK && !isZero(answer) {
				t.Errorf("%s by %v: %v beside %v", what, c, answer, e)
			}
			if e != api.OK && now != was {
				t.Errorf("%s by %v: %v, but something has changed", what, c, e)
			}
			was = now
		})
		sound(t, fmt.Sprint("by ", c), f)
	}
}

// R2: of two things that are wrong the one that the chapter names first.
func TestTwoThingsWrong(t *testing.T) {
	f := small(t)
	symlink(t, f, "x", "/x")
	symlink(t, f, "a", "/l")
	chmod(t, f, "/a/b", 0o600)
	wrong := func(what string, want api.Errno, call func() api.Errno) {
		t.Helper()
		refused(t, what, f, want, call)
	}
	wrong("Access: how, and the path", api.EINVAL, func() api.Errno { return f.Access(root, "/no", 8) })
	wrong("Open: flags, and the path", api.EINVAL, func() api.Errno { _, e := f.Open(root, "", 0, 0); return e })
	wrong("no directory, and not searched", api.ENOTDIR, func() api.Errno { return f.Mkdir(ann, "/f/x/y", 0) })
	wrong("not searched, and no such name", api.EACCES, func() api.Errno { return f.Mkdir(ann, "/a/b/no/y", 0) })
	wrong("a wrong name behind, and not searched", api.ENAMETOOLONG, func() api.Errno { return f.Mkdir(ann, "/a/b/"+letters(28), 0) })
	wrong("no Cwd, and a wrong name", api.ENAMETOOLONG, func() api.Errno { return f.Mkdir(in(root, -1), letters(28), 0) })
	wrong("no Cwd, and a bad last name", api.ENOENT, func() api.Errno { return f.Mkdir(in(root, -1), ".", 0) })
	wrong("Cwd a file, and a bad last name", api.ENOTDIR, func() api.Errno { return f.Mkdir(in(root, rf), ".", 0) })
	wrong("Mkdir: there, and not written", api.EEXIST, func() api.Errno { return f.Mkdir(ann, "/f", 0) })
	wrong("Symlink: both paths", api.ENAMETOOLONG, func() api.Errno { return f.Symlink(root, letters(28), "") })
	wrong("Symlink: there, and a slash", api.EEXIST, func() api.Errno { return f.Symlink(root, "x", "/l/") })
	wrong("Symlink: a slash, and not written", api.ENOENT, func() api.Errno { return f.Symlink(ann, "x", "/new/") })
	wrong("Link: both paths", api.ENOENT, func() api.Errno { return f.Link(root, "/no", letters(28)) })
	wrong("Link: a directory, and there", api.EEXIST, func() api.Errno { return f.Link(root, "/a", "/f") })
	wrong("Link: a directory, and not written", api.EACCES, func() api.Errno { return f.Link(ann, "/a", "/new") })
	wrong("Unlink: not written, and a directory", api.EACCES, func() api.Errno { return f.Unlink(ann, "/a") })
	wrong("Unlink: a directory, and a slash", api.EISDIR, func() api.Errno { return f.Unlink(root, "/a/") })
	wrong("Rmdir: no directory, and not written", api.EACCES, func() api.Errno { return f.Rmdir(ann, "/f") })
	wrong("Rename: both paths", api.ELOOP, func() api.Errno { return f.Rename(root, "/x/y", letters(28)) })
	wrong("Rename: a bad name, and missing", api.EBUSY, func() api.Errno { return f.Rename(root, "/no", "/a/..") })
	wrong("Rename: missing, and a slash", api.ENOENT, func() api.Errno { return f.Rename(root, "/no", "/f/") })
	wrong("Rename: a slash, and not written", api.ENOTDIR, func() api.Errno { return f.Rename(ann, "/f", "/g/") })
	wrong("Rename: not written, and into itself", api.EACCES, func() api.Errno { return f.Rename(ann, "/a", "/a/x") })
	wrong("Rename: into itself, and not empty", api.EINVAL, func() api.Errno { return f.Rename(root, "/a", "/a/b") })
	wrong("Chown: uid, and not the owner", api.EINVAL, func() api.Errno { return f.Chown(ann, "/f", -2, 0, true) })
	wrong("Chown: the path, and uid", api.ENOENT, func() api.Errno { return f.Chown(ann, "/no", -2, 0, true) })
	wrong("Truncate: not written, and the size", api.EACCES, func() api.Errno { return f.Truncate(ann, "/f", -1) })
	wrong("Truncate: a directory, not written", api.EISDIR, func() api.Errno { return f.Truncate(ann, "/a", -1) })
	wrong("Open: Excl, and a link", api.EEXIST, func() api.Errno { _, e := f.Open(root, "/l", w|cr|ex|api.NoFollow, 0); return e })
	wrong("Open: a link, and no directory", api.ELOOP, func() api.Errno { _, e := f.Open(root, "/x", r|api.DirOnly|api.NoFollow, 0); return e })
	wrong("Open: no directory, and not read", api.ENOTDIR, func() api.Errno { _, e := f.Open(ann, "/f", rw|api.DirOnly, 0); return e })
	wrong("Open: a directory, and not written", api.EISDIR, func() api.Errno { _, e := f.Open(ann, "/a", w, 0); return e })
	wrong("Open: a slash, and not written", api.EISDIR, func() api.Errno { _, e := f.Open(ann, "/new/", w|cr, 0); return e })
	wrong("Dir: no directory", api.ENOTDIR, func() api.Errno { _, e := f.Dir(ann, "/f"); return e })
	wrong("Path: a file", api.ENOTDIR, func() api.Errno { _, e := f.Path(rf); return e })
	wrong("ReadAt: a directory, and below 0", api.EISDIR, func() api.Errno { _, e := f.ReadAt(a, -1, -1); return e })
}

// spoil: all that belongs to a list, its spare room too.
func spoil[T any](l []T, with T) {
	l = l[:cap(l)]
	for i := range l {
		l[i] = with
	}
}

// R3: answers are new memory, their spare room too, and stay as they were.
func TestAnswersAreNew(t *testing.T) {
	f := small(t)
	write(t, f, rf, 0, strings.Repeat("text", 100))
	c := f.Copy()
	was := picture(f)
	b, _ := f.ReadAt(rf, 0, 400)
	o, _ := f.Owned(rf)
	l, _ := f.Entries(top)
	used, inodes := f.Used(), f.Inodes()
	kept := fmt.Sprint(b, o, l, used, inodes)
	spoil(slices.Clone(b), 0)
	for range 2 {
		x, _ := f.ReadAt(rf, 0, 400)
		y, _ := f.Owned(rf)
		z, _ := f.Entries(top)
		spoil(x, 0xee)
		spoil(y, -7)
		spoil(z, api.Entry{Name: "spoiled", Ino: -7, Kind: -7})
		spoil(f.Used(), -7)
		spoil(f.Inodes(), -7)
		unchanged(t, "answers changed", f, was)
		unchanged(t, "answers changed: the copy", c, was)
	}
	write(t, f, rf, 0, "changed")
	mkdir(t, f, "/new")
	good(t, "Unlink", f.Unlink(root, "/f"))
	same(t, "the file system changed", fmt.Sprint(b, o, l, used, inodes), kept)
}

// R3: what is handed in is neither changed nor kept.
func TestArgumentsAreLeft(t *testing.T) {
	f := small(t)
	all := []byte("..text..")
	n, e := f.WriteAt(rf, 0, all[2:6])
	same(t, "WriteAt", []int{n, int(e)}, []int{4, 0})
	same(t, "the bytes", string(all), "..text..")
	clear(all)
	b, _ := f.ReadAt(rf, 0, 4)
	same(t, "the list changed", string(b), "text")

	groups := []int{80, 81, 82, 83}
	c := api.Cred{Uid: 9, Gid: 9, Groups: groups[:2]}
	good(t, "Chown", f.Chown(root, "/a", 5, 81, true))
	chmod(t, f, "/a", 0o070)
	good(t, "Mkdir", f.Mkdir(c, "/a/mine", 0o755))
	same(t, "the groups", groups, []int{80, 81, 82, 83})
	spoil(c.Groups, -1)
	is(t, "other groups now", f.Mkdir(c, "/a/mine2", 0o755), api.EACCES)
	st := stat(t, f, "/a/mine")
	same(t, "its owner", []int{st.Uid, st.Gid}, []int{9, 9})
}

// R4: the same calls, the same answers, whatever other file systems do meanwhile.
func TestOneOutcome(t *testing.T) {
	run := func() string {
		x, d := twins(t, 30, 12), dice(99)
		for step := range 200 {
			x.clock(int64(step))
			c := d.cred(12)
			nameStep(x, &d, c)
			fileStep(x, &d, c, 12)
		}
		return picture(x.f)
	}
	want := run()
	var all [8]string
	var done sync.WaitGroup
	for i := range all {
		done.Go(func() { all[i] = run() })
	}
	done.Wait()
	for _, got := range all {
		same(t, "again", got, want)
	}
}

// Nothing is kept beside the tree: of two with the same one the calls answer the same.
func TestRefusedLeavesNoTrace(t *testing.T) {
	f, g := small(t), small(t)
	for range 50 {
		f.Mkdir(root, "/f/x", 0o755)
		f.Mkdir(ann, "/new", 0o755)
		f.Open(root, "/no/no", w|cr, 0o644)
		f.Rename(root, "/a", "/a/b/c/d")
		f.Symlink(root, strings.Repeat("a/", 127), "/a/b/c/d/e")
	}
	same(t, "refused", picture(f), picture(g))
	same(t, "the next inode", file(t, f, "/new", "x"), file(t, g, "/new", "x"))
	same(t, "and blocks", picture(f), picture(g))
}
