package desc_test

import (
	"fmt"
	"math"
	"testing"

	"tinsel/api"
	"tinsel/desc"
	"tinsel/tree"
)

// P7.1

func TestNew(t *testing.T) {
	fs := store(t, 64, 16)
	for _, c := range []api.Cred{
		root, ann, bob, {Uid: math.MaxInt, Gid: math.MaxInt, Groups: []int{0, math.MaxInt}, Umask: 0o777},
		{Umask: 0o022}, {Umask: 0o777}, {Umask: 0o001}, {Gid: 5, Groups: []int{}}, {Cwd: 1},
	} {
		p := proc(t, fs, c)
		if p.FS() != fs {
			t.Error("FS: another one")
		}
		fds(t, p)
		c.Cwd = 1
		same(t, "Cred", p.Cred(), c)
		cwd, e := p.Getcwd()
		same(t, "Getcwd", fmt.Sprint(cwd, int(e)), "/0")
	}
}

func TestNewRefuses(t *testing.T) {
	fs := store(t, 64, 16)
	good(t, "Symlink", fs.Symlink(root, "/", "/l"))
	ino, e := fs.Open(root, "/f", wr|create, 0o644)
	good(t, "Open", e)
	good(t, "Release", fs.Release(ino))
	was := picture(fs)
	for _, c := range []api.Cred{
		{Uid: -1}, {Uid: math.MinInt}, {Gid: -1}, {Gid: math.MinInt},
		{Groups: []int{-1}}, {Groups: []int{0, 5, -1}}, {Groups: []int{-1, 5}}, {Groups: []int{5, math.MinInt, 5}},
		{Umask: -1}, {Umask: 0o1000}, {Umask: 0o1777}, {Umask: 0o7777}, {Umask: math.MaxInt}, {Umask: math.MinInt}, {Umask: math.MinInt | 0o22},
		{Cwd: -1}, {Cwd: ino}, {Cwd: inode(t, fs, "/l")}, {Cwd: 4}, {Cwd: 16}, {Cwd: 17}, {Cwd: math.MaxInt}, {Cwd: math.MinInt},
		{Uid: -1, Umask: -1, Cwd: -1},
	} {
		p, e := desc.New(fs, c)
		if p != nil || e != api.EINVAL {
			t.Errorf("New %+v: %v, %v", c, p, e)
		}
	}
	same(t, "the file system", picture(fs), was)
}

// EFAULT is told ahead of what else is wrong.
func TestNewWithoutFileSystem(t *testing.T) {
	for _, fs := range []*tree.FS{nil, {}, new(tree.FS)} {
		for _, c := range []api.Cred{root, ann, {Cwd: 1}, {Cwd: 5}, {Uid: -1}, {Gid: -1, Groups: []int{-1}}, {Umask: 0o1000}, {Cwd: -1}} {
			p, e := desc.New(fs, c)
			if p != nil || e != api.EFAULT {
				t.Errorf("New %+v: %v, %v", c, p, e)
			}
		}
	}
}

// A process holds the directory that it stands in, one hold each.
func TestNewHoldsItsDirectory(t *testing.T) {
	fs := store(t, 64, 16)
	good(t, "Mkdir", fs.Mkdir(root, "/d", 0))
	d := inode(t, fs, "/d")
	heldBy(t, "at first", fs, 1, 0)
	p := proc(t, fs, root)
	heldBy(t, "Cwd 0", fs, 1, 1)
	proc(t, fs, in(ann, 1))
	heldBy(t, "Cwd 1", fs, 1, 2)
	q := proc(t, fs, in(ann, d)) // whether it may search there or not
	heldBy(t, "Cwd d", fs, d, 1)
	heldBy(t, "Cwd d", fs, 1, 2)
	same(t, "Cred", q.Cred().Cwd, d)
	good(t, "Rmdir", p.Rmdir("/d"))
	uses(t, "its name is gone", fs, d, true)
	q.CloseAll()
	uses(t, "descriptors alone are closed", fs, d, true)
	good(t, "Chdir", q.Chdir("/"))
	uses(t, "let go", fs, d, false)
}

// A directory that is gone, but held, is a directory still; if nobody holds it, it is none.
func TestNewInOneThatIsGone(t *testing.T) {
	fs := store(t, 64, 16)
	good(t, "Mkdir", fs.Mkdir(root, "/d", 0o755))
	d, e := fs.Dir(root, "/d")
	good(t, "Dir", e)
	good(t, "Rmdir", fs.Rmdir(root, "/d"))
	p := proc(t, fs, in(root, d))
	same(t, "Cred", p.Cred().Cwd, d)
	good(t, "Release", fs.Release(d))
	heldBy(t, "by the process alone", fs, d, 1)
	_, e = p.Getcwd()
	is(t, "Getcwd", e, api.ENOENT)
	good(t, "Chdir", p.Chdir("/"))
	if q, e := desc.New(fs, in(root, d)); q != nil || e != api.EINVAL {
		t.Errorf("New where nothing is: %v, %v", q, e)
	}
}

func TestCredTellsWhatChanged(t *testing.T) {
	p := proc(t, store(t, 64, 16), api.Cred{Uid: 0, Gid: 4, Groups: []int{6, 5}, Umask: 0o27})
	mkdir(t, p, "/a", "/a/b")
	good(t, "Chdir", p.Chdir("a/b"))
	p.Umask(0o70)
	same(t, "Cred", p.Cred(), api.Cred{Gid: 4, Groups: []int{6, 5}, Umask: 0o70, Cwd: 3})
}

// Fds: rising, whatever they lead to and however they came.
func TestFds(t *testing.T) {
	p := made(t)
	fds(t, p)
	open(t, p, "f", rw|create)
	fds(t, p, 0)
	pipe(t, p)
	tape(t, p, "")
	fds(t, p, 0, 1, 2, 3)
	n, e := p.Dup2(1, 15)
	number(t, "Dup2", n, e, 15)
	n, e = p.Dup2(0, 9)
	number(t, "Dup2", n, e, 9)
	fds(t, p, 0, 1, 2, 3, 9, 15)
	good(t, "Close", p.Close(1))
	good(t, "Close", p.Close(0))
	fds(t, p, 2, 3, 9, 15)
	dup(t, p, 3)
	fds(t, p, 0, 2, 3, 9, 15)
	p.CloseAll()
	fds(t, p)
}

// Two processes on one file system have each their own descriptors, directory and umask.
func TestTwoProcesses(t *testing.T) {
	fs := store(t, 64, 16)
	p, q := proc(t, fs, root), proc(t, fs, ann)
	mkdir(t, p, "/d")
	open(t, p, "/f", rw|create)
	fds(t, p, 0)
	fds(t, q)
	good(t, "Chdir", p.Chdir("d"))
	same(t, "q's directory", q.Cred().Cwd, 1)
	p.Umask(0o777)
	same(t, "q's umask", q.Umask(0), 0)
	put(t, p, 0, "text")
	same(t, "q opens it", open(t, q, "/f", rd), 0)
	gets(t, q, 0, 9, "text")
	place(t, p, 0, 4)
	q.CloseAll()
	fds(t, p, 0)
	put(t, p, 0, "s")
	holds(t, p, "/f", "texts")
}
