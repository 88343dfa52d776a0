package tree_test

import (
	"fmt"
	"math"
	"testing"

	"tinsel/api"
	"tinsel/tree"
)

// P6.1

func TestNew(t *testing.T) {
	for _, size := range [][2]int{{1, 1}, {2, 3}, {64, 16}, {api.MaxStore, api.MaxInodes}, {1, api.MaxInodes}, {api.MaxStore, 1}} {
		f := made(t, size[0], size[1])
		what := fmt.Sprint("New ", size)
		all, left, inodes, spare := f.Statfs()
		same(t, what+": Statfs", []int{all, left, inodes, spare}, []int{size[0], size[0] - 1, size[1], size[1] - 1})
		same(t, what+": Inodes", f.Inodes(), []int{1})
		same(t, what+": Used", f.Used(), []int{0})
		same(t, what+": Now", f.Now(), 0)
		want := api.Stat{Ino: 1, Links: 2, Size: 64, Blocks: 1, Mode: api.TypeDir | 0o755}
		same(t, what+": the root", stat(t, f, "/"), want)
		same(t, what+": its entries", names(t, f, "/"), ".=1 ..=1")
		same(t, what+": its holds", holds(f, 1), 0)
		sound(t, what, f)
	}
}

func TestNewRefuses(t *testing.T) {
	odd := []int{0, -1, -64, math.MinInt, math.MaxInt, math.MaxInt32}
	for _, n := range append(odd, api.MaxStore+1) {
		for _, m := range []int{1, 16, 0, -1} {
			if f, e := tree.New(n, m); f != nil || e != api.EINVAL {
				t.Errorf("New(%d, %d): %v, %v", n, m, f, e)
			}
		}
	}
	for _, n := range append(odd, api.MaxInodes+1) {
		if f, e := tree.New(1, n); f != nil || e != api.EINVAL {
			t.Errorf("New(1, %d): %v, %v", n, f, e)
		}
	}
}

func TestClock(t *testing.T) {
	f := made(t, 20, 9)
	for _, at := range []int64{5, -5, math.MaxInt64, math.MinInt64, 0, 9} {
		f.Clock(at)
		same(t, "Now", f.Now(), at)
	}
	same(t, "the root's times", stat(t, f, "/"), api.Stat{Ino: 1, Links: 2, Size: 64, Blocks: 1, Mode: api.TypeDir | 0o755})
	mkdir(t, f, "/a")
	same(t, "a new one's", stat(t, f, "/a"), api.Stat{Ino: 2, Links: 2, Size: 64, Blocks: 1, Mode: api.TypeDir | 0o755, Atime: 9, Mtime: 9, Ctime: 9})
	same(t, "the root's", stat(t, f, "/"), api.Stat{Ino: 1, Links: 3, Size: 96, Blocks: 2, Mode: api.TypeDir | 0o755, Mtime: 9, Ctime: 9})
}

// Looking changes no time.
func TestLookingChangesNothing(t *testing.T) {
	f := made(t, 20, 9)
	mkdir(t, f, "/a")
	file(t, f, "/a/f", "text")
	symlink(t, f, "a/f", "/l")
	was := picture(f)
	f.Clock(77)
	f.Resolve(root, "/l", true)
	f.Stat(root, "/l", false)
	f.Access(root, "/l", 7)
	f.Readlink(root, "/l")
	f.ReadAt(3, 0, 99)
	f.Info(3)
	f.Entries(2)
	f.Path(2)
	f.Owned(3)
	f.Inodes()
	f.Used()
	f.Statfs()
	f.Copy()
	opens(t, f, root, "/l", api.Read, 0, 3)
	f.Clock(0)
	unchanged(t, "looked at", f, was)
}

func TestStatfsAndLists(t *testing.T) {
	f := made(t, 20, 9)
	mkdir(t, f, "/a", "/b")
	file(t, f, "/a/f", letters(130))
	all, left, inodes, spare := f.Statfs()
	same(t, "Statfs", []int{all, left, inodes, spare}, []int{20, 12, 9, 5})
	same(t, "Used", f.Used(), []int{0, 1, 2, 3, 4, 5, 6, 7})
	same(t, "Inodes", f.Inodes(), []int{1, 2, 3, 4})
	for i, want := range []string{"[0 2]", "[1 4]", "[3]", "[5 6 7]"} {
		o, e := f.Owned(i + 1)
		same(t, fmt.Sprint("Owned ", i+1), fmt.Sprint(o, int(e)), want+" 0")
	}
}

// A copy is just like its original, and neither changes the other.
func TestCopy(t *testing.T) {
	f := made(t, 40, 12)
	f.Clock(3)
	mkdir(t, f, "/a", "/a/b")
	file(t, f, "/a/f", "text")
	symlink(t, f, "/a", "/l")
	held, e := f.Dir(root, "/a/b")
	good(t, "Dir", e)
	good(t, "Rmdir", f.Rmdir(root, "/a/b"))
	was := picture(f)
	c := f.Copy()
	unchanged(t, "the copy", c, was)

	f.Clock(8)
	mkdir(t, f, "/new")
	file(t, f, "/new/g", "more")
	chmod(t, f, "/a", 0o700)
	good(t, "Rename", f.Rename(root, "/a/f", "/new/f"))
	good(t, "Release", f.Release(held))
	unchanged(t, "the original changed", c, was)
	sound(t, "the original", f)

	now := picture(f)
	good(t, "Unlink", c.Unlink(root, "/l"))
	good(t, "Truncate", c.Truncate(root, "/a/f", 1))
	mkdir(t, c, "/new")
	c.Clock(99)
	unchanged(t, "the copy changed", f, now)
	sound(t, "the copy", c)
	good(t, "Release", c.Release(held))
	sound(t, "the copy", c)
}
