package tree_test

import (
	"fmt"
	"strings"
	"testing"

	"tinsel/api"
)

// dice are numbers that look like chance, but are the same each time.
type dice uint64

func (d *dice) below(n int) int {
	*d = *d*6364136223846793005 + 1442695040888963407
	return int(uint64(*d) >> 33 % uint64(n))
}

// one: any of a list.
func one[T any](d *dice, l []T) T { return l[d.below(len(l))] }

// any path of few names, so that they are met again.
func (d *dice) path() string {
	var b strings.Builder
	if d.below(3) > 0 {
		b.WriteString("/")
	}
	for k := range 1 + d.below(4) {
		if k > 0 {
			b.WriteString("/")
		}
		b.WriteString(one(d, []string{"a", "a", "b", "b", "c", "d", ".", ".."}))
	}
	if d.below(6) == 0 {
		b.WriteString("/")
	}
	switch d.below(60) {
	case 0:
		return "/"
	case 1:
		return ""
	case 2:
		return letters(28)
	}
	return b.String()
}

func (d *dice) cred(inodes int) api.Cred {
	c := one(d, []api.Cred{root, root, ann, bob, {Uid: 8, Gid: 70, Groups: []int{80}}})
	c.Umask = one(d, []int{0, 0, 0o022, 0o077, 0o777, 0o2022, -1})
	if d.below(2) == 0 {
		c.Cwd = d.below(inodes+3) - 1
	}
	return c
}

func (d *dice) mode() api.Mode {
	return one(d, []api.Mode{0o777, 0o755, 0o700, 0o2777, 0o1777, 0o7777, 0o644, 0o070, 0, 0o333, 0o555, -1})
}

func (d *dice) flags() int {
	if d.below(9) == 0 {
		return d.below(300) - 20
	}
	return one(d, []int{1, 2, 3}) | d.below(64)<<2
}

// nameStep: one call that makes or takes away a name.
func nameStep(x *both, d *dice, c api.Cred) {
	switch d.below(8) {
	case 0, 1:
		x.mkdir(c, d.path(), d.mode())
	case 2:
		x.rmdir(c, d.path())
	case 3:
		x.symlink(c, d.path(), d.path())
	case 4:
		x.link(c, d.path(), d.path())
	case 5:
		x.unlink(c, d.path())
	default:
		x.rename(c, d.path(), d.path())
	}
}

// fileStep: one of the other calls that change something.
func fileStep(x *both, d *dice, c api.Cred, inodes int) {
	ino := d.below(inodes+3) - 1
	switch d.below(12) {
	case 0:
		x.chmod(c, d.path(), d.mode())
	case 1:
		x.chown(c, d.path(), one(d, []int{-2, -1, -1, 0, 7, 8}), one(d, []int{-2, -1, -1, 0, 70, 80, 81}), d.below(2) == 0)
	case 2:
		x.utime(c, d.path(), int64(d.below(99)), int64(d.below(99)), d.below(2) == 0)
	case 3:
		x.truncate(c, d.path(), one(d, []int{-1, 0, 1, 64, 65, 200, 17792, 17793}))
	case 4, 5, 6:
		x.open(c, d.path(), d.flags(), d.mode())
	case 7:
		x.openDir(c, d.path())
	case 8:
		x.hold(ino)
	case 9:
		x.writeAt(ino, one(d, []int{-1, 0, 3, 60, 384, 1408, 17790, 17792}), strings.Repeat("w", d.below(150)))
	case 10:
		x.resize(ino, one(d, []int{-1, 0, 1, 64, 200, 17793}))
	default:
		x.release(ino)
	}
}

// P6.15, and all calls against the model: any calls, one behind the other,
// some of them where there is hardly any room.
func TestAnyCalls(t *testing.T) {
	for run, size := range [][2]int{{60, 20}, {12, 20}, {60, 6}, {5, 4}, {1, 1}, {30, 12}, {200, 60}, {8, 40}} {
		d, x := dice(run+1), twins(t, size[0], size[1])
		good(t, "Chmod", x.f.Chmod(root, "/", 0o777))
		x.m.nodes[1].mode = api.TypeDir | 0o777
		for step := range 1500 {
			x.clock(int64(step))
			c := d.cred(size[1])
			if d.below(3) > 0 {
				nameStep(x, &d, c)
			} else {
				fileStep(x, &d, c, size[1])
			}
			x.look(c, d.path(), d.below(10)-1)
			ino := d.below(size[1]+3) - 1
			x.readAt(ino, d.below(200)-5, d.below(200)-5)
			x.path(ino)
			alike(t, fmt.Sprintf("run %d, step %d", run, step), x.f, x.m)
			sound(t, fmt.Sprintf("run %d, step %d", run, step), x.f)
		}
	}
}

// park: a tree with something of each kind.
func park(t *testing.T) *both {
	x := twins(t, 80, 40)
	x.chmod(root, "/", 0o777)
	for _, p := range []string{"/d", "/d/e", "/d/e/g", "/empty", "/void", "/shut", "/shut/in", "/noread", "/sticky", "/sticky/sub", "/set"} {
		x.mkdir(root, p, 0o777)
	}
	for _, p := range []string{"/f", "/d/f", "/d/e/f", "/shut/f", "/sticky/f", "/sticky/ann", "/sticky/bob", "/set/f"} {
		ino, _ := x.open(root, p, api.Write|api.Create, 0o666)
		x.release(ino)
	}
	x.link(root, "/f", "/d/hard")
	for _, l := range [][2]string{{"d", "/l"}, {"d/", "/ls"}, {"f", "/lf"}, {"f/", "/lfs"}, {"no", "/dangle"}, {"no/", "/dangles"},
		{"loop", "/loop"}, {"/", "/d/top"}, {"/d/e", "/d/abs"}, {"..", "/d/up"}, {"l", "/ll"}, {"no/no", "/gap"}, {"shut/in", "/ls2"}, {"e/../new", "/d/make"}} {
		x.symlink(root, l[0], l[1])
	}
	x.chown(root, "/sticky/ann", 7, 70, false)
	x.chown(root, "/sticky/bob", 8, 80, false)
	x.chown(root, "/set", 0, 82, false)
	x.chown(root, "/d/e/f", 7, 80, false)
	x.chown(root, "/noread", 7, 70, false)
	x.chmod(root, "/shut", 0o666)
	x.chmod(root, "/noread", 0o511)
	x.chmod(root, "/sticky", 0o1777)
	x.chmod(root, "/set", 0o2777)
	alike(t, "park", x.f, x.m)
	sound(t, "park", x.f)
	return x
}

// parkPaths: each kind of path there.
var parkPaths = []string{
	"/", "//", ".", "..", "./", "/.", "/..", "/d/.", "/d/..", "/d/e/../..", "", letters(28), "/x/" + letters(28), "a\x00", "/d\x00/x",
	"/new", "/new/", "/d/new", "/d/new/", "/no/new", "/d", "/d/", "/d/e", "/d/e/", "/d/e/g", "/d/e/g/new", "/empty", "/empty/", "/empty/new", "/void", "/void/",
	"/f", "/f/", "/f/.", "/f/..", "/f/new", "/d/hard", "/d/f", "/d/e/f", "/l", "/l/", "/l/.", "/l/..", "/l/new", "/ls", "/ls/", "/ls/f",
	"/lf", "/lf/", "/lf/x", "/lfs", "/lfs/", "/dangle", "/dangle/", "/dangle/x", "/dangles", "/loop", "/loop/", "/loop/x",
	"/d/top", "/d/top/", "/d/top/f", "/d/abs", "/d/abs/f", "/d/up", "/d/up/f", "/ll", "/ll/", "/ll/e", "/gap", "/ls2", "/ls2/", "/d/make", "/d/make/",
	"/shut", "/shut/", "/shut/.", "/shut/..", "/shut/f", "/shut/new", "/shut/in/new", "/noread", "/noread/new", "/noread/.",
	"/sticky/f", "/sticky/ann", "/sticky/bob", "/sticky/sub", "/sticky/new", "/set/f", "/set/new", "/set/new/",
	"e", "e/", "f", "new", "../f", "../new", "e/../f", "top/f", "up",
}

// inPark: a test for each of the first so many who go there, from where they stand.
func inPark(t *testing.T, count int, test func(t *testing.T, x *both, c api.Cred)) {
	for _, v := range []struct {
		who api.Cred
		cwd string
	}{{masked(bob, 0o027), "/d"}, {root, ""}, {ann, "/shut"}, {ann, ""}, {in(root, 39), ""}, {bob, "/f"}}[:count] {
		t.Run(fmt.Sprint(v), func(t *testing.T) {
			t.Parallel()
			x := park(t)
			if v.cwd != "" {
				v.who.Cwd = inode(t, x.f, v.cwd)
			}
			test(t, x, v.who)
		})
	}
}

// All calls that take one path, with each path.
func TestEachPath(t *testing.T) {
	inPark(t, 6, func(t *testing.T, base *both, c api.Cred) {
		for _, p := range parkPaths {
			for how := -1; how <= 8; how++ {
				base.look(c, p, how)
			}
			for _, call := range []func(x *both) api.Errno{
				func(x *both) api.Errno { return x.mkdir(c, p, 0o7777) },
				func(x *both) api.Errno { return x.rmdir(c, p) },
				func(x *both) api.Errno { return x.unlink(c, p) },
				func(x *both) api.Errno { return x.symlink(c, "to/where", p) },
				func(x *both) api.Errno { return x.symlink(c, p, "/here") },
				func(x *both) api.Errno { return x.chmod(c, p, 0o6711) },
				func(x *both) api.Errno { return x.chown(c, p, -1, 82, true) },
				func(x *both) api.Errno { return x.chown(c, p, 7, -1, false) },
				func(x *both) api.Errno { return x.utime(c, p, 3, 4, true) },
				func(x *both) api.Errno { return x.utime(c, p, 3, 4, false) },
				func(x *both) api.Errno { return x.truncate(c, p, 70) },
				func(x *both) api.Errno { return x.openDir(c, p) },
			} {
				base.try(call)
			}
			alike(t, fmt.Sprintf("%v, %q", c, p), base.f, base.m)
		}
	})
}

// Open with each path and each flags; Append says nothing here.
func TestEachOpen(t *testing.T) {
	inPark(t, 4, func(t *testing.T, base *both, c api.Cred) {
		for _, p := range parkPaths {
			for flags := range 256 {
				if flags&(api.Read|api.Write) == 0 || flags&api.Append != 0 {
					continue
				}
				base.try(func(x *both) api.Errno {
					_, e := x.open(c, p, flags, 0o4777)
					return e
				})
			}
			alike(t, fmt.Sprintf("%v, %q", c, p), base.f, base.m)
		}
	})
}

// Link and Rename with each two paths.
func TestEachTwoPaths(t *testing.T) {
	inPark(t, 3, func(t *testing.T, base *both, c api.Cred) {
		for _, p := range parkPaths {
			for _, q := range parkPaths {
				base.try(func(x *both) api.Errno { return x.link(c, p, q) })
				base.try(func(x *both) api.Errno { return x.rename(c, p, q) })
			}
			alike(t, fmt.Sprintf("%v, %q", c, p), base.f, base.m)
		}
	})
}
