package dir_test

import (
	"fmt"
	"math"
	"slices"
	"testing"

	"tinsel/api"
	"tinsel/dir"
	"tinsel/inode"
)

// anyNames: good ones and wrong ones.
var anyNames = []string{"a", ".", "..", "", "/", "\x00", "a/b", letters(27), letters(28), letters(28) + "/", letters(5000)}

// anyNumbers: some in use, some not.
var anyNumbers = []int{top, file, unused, 0, -1, math.MaxInt, math.MinInt, math.MaxInt32, math.MinInt32, 1 << 32}

// refused: each call answers want, whatever else it is given, and beside it nothing.
func refused(t *testing.T, what string, x *inode.Table, d int, want api.Errno) {
	t.Helper()
	for _, n := range anyNumbers {
		is(t, what+": Init", dir.Init(x, d, n), want)
		noName(t, what, x, d, n, want)
		for _, name := range anyNames {
			is(t, what+": Add", dir.Add(x, d, name, n), want)
			is(t, what+": Put", dir.Put(x, d, name, n), want)
		}
	}
	for _, name := range anyNames {
		noFind(t, what, x, d, name, want)
		is(t, what+": Remove", dir.Remove(x, d, name), want)
	}
	if l, e := dir.List(x, d); len(l) != 0 || e != want {
		t.Errorf("%s: List %v, %v, want %v", what, l, e, want)
	}
	if ok, e := dir.Empty(x, d); ok || e != want {
		t.Errorf("%s: Empty %v, %v, want %v", what, ok, e, want)
	}
	if n, e := dir.Spare(x, d); n != 0 || e != want {
		t.Errorf("%s: Spare %d, %v, want %v", what, n, e, want)
	}
	same(t, what+": Slots", gone(dir.Slots(x, d)), []string{})
}

// R1, R2, R5: of a table that no call made all is EFAULT, ahead of all else.
func TestNoTable(t *testing.T) {
	for _, x := range []*inode.Table{nil, {}, new(inode.Table)} {
		for _, d := range anyNumbers {
			refused(t, "no table", x, d, api.EFAULT)
		}
	}
}

// R1, R2: a number that is not in use is ENOENT, ahead of what else is wrong.
func TestNoInode(t *testing.T) {
	x := table(t, 9)
	was := picture(x)
	for _, d := range noInodes {
		refused(t, fmt.Sprint("no inode ", d), x, d, api.ENOENT)
	}
	unchanged(t, "refused", x, was)
}

// R1, R2: one that is no directory is ENOTDIR, also where its bytes look like one's.
func TestNoDirectory(t *testing.T) {
	x := table(t, 9)
	put(t, x, file, 0, dots()+raw(file, "a"))
	put(t, x, link, 0, dots()+raw(file, "a"))
	was := picture(x)
	refused(t, "a file", x, file, api.ENOTDIR)
	refused(t, "a link", x, link, api.ENOTDIR)
	unchanged(t, "refused", x, was)
}

// A directory is one whatever its permission bits are, and whoever owns it.
func TestAnyPermissions(t *testing.T) {
	for _, mode := range []api.Mode{0, 0o7777, 0o111, api.SetUid, api.SetGid, api.Sticky} {
		x := table(t, 9)
		is(t, "SetMode", x.SetMode(top, mode), api.OK)
		is(t, "SetOwner", x.SetOwner(top, 5, 6), api.OK)
		is(t, "Add", dir.Add(x, top, "a", file), api.OK)
		finds(t, "Add", x, top, "a", file)
	}
}

// R2: of two things that are wrong the one that the chapter names first.
func TestTwoThingsWrong(t *testing.T) {
	x := table(t, 2)
	is(t, "Add", dir.Add(x, top, "a", file), api.OK)
	is(t, "Add", dir.Add(x, top, "b", file), api.OK)
	was := picture(x)
	is(t, "no name, no inode", dir.Add(x, top, "", unused), api.EINVAL)
	is(t, "a slash and too long", dir.Add(x, top, letters(28)+"/", file), api.EINVAL)
	is(t, "too long, no inode", dir.Add(x, top, letters(28), unused), api.ENAMETOOLONG)
	is(t, "no inode, the name is there", dir.Add(x, top, "a", unused), api.EINVAL)
	is(t, "no inode, no room", dir.Add(x, top, "c", unused), api.EINVAL)
	is(t, "the name is there, no room", dir.Add(x, top, "a", file), api.EEXIST)
	is(t, "no room", dir.Add(x, top, "c", file), api.ENOSPC)
	is(t, "too long, no inode", dir.Put(x, top, letters(28), unused), api.ENAMETOOLONG)
	is(t, "no inode, no such name", dir.Put(x, top, "c", unused), api.EINVAL)
	is(t, "no parent, and a size", dir.Init(x, top, unused), api.EINVAL)
	is(t, "no parent, and no room", dir.Init(x, sub, unused), api.EINVAL)
	is(t, "a size, and no room", dir.Init(x, top, top), api.EEXIST)
	unchanged(t, "refused", x, was)
}

// R3: an answer is new memory, its spare room too, and stays as it was.
func TestAnswersAreNew(t *testing.T) {
	x := filled(t, 20, odd())
	was := picture(x)
	a, _ := dir.List(x, sub)
	b, _ := dir.List(x, sub)
	seq := dir.Slots(x, sub)
	told := gone(seq)
	kept := slices.Clone(b)
	spoiled := a[:cap(a)]
	for i := range spoiled {
		spoiled[i] = api.Entry{Name: "spoiled", Ino: -7, Kind: -7}
	}
	unchanged(t, "an answer changed", x, was)
	same(t, "another List", b, kept)
	same(t, "Slots", gone(seq), told)
	is(t, "Truncate", x.Truncate(sub, 0), api.OK)
	put(t, x, sub, 0, raw(1, "other")+raw(1, "others"))
	same(t, "List, the directory changed", b, kept)
}

// Nothing is kept between calls: two tables do not know of each other.
func TestTwoTables(t *testing.T) {
	x := table(t, 9)
	y := x.Copy()
	is(t, "Add", dir.Add(x, top, "a", file), api.OK)
	noFind(t, "the other table", y, top, "a", api.ENOENT)
	is(t, "Add", dir.Add(y, top, "b", link), api.OK)
	content(t, "one", x, top, dots()+raw(file, "a"))
	content(t, "the other", y, top, dots()+raw(link, "b"))
}

// Two directories of one table do not, either.
func TestTwoDirectories(t *testing.T) {
	x := table(t, 9)
	is(t, "Init", dir.Init(x, sub, top), api.OK)
	for k := range 5 {
		is(t, "Add", dir.Add(x, top, fmt.Sprint("t", k), file), api.OK)
		is(t, "Add", dir.Add(x, sub, fmt.Sprint("s", k), link), api.OK)
	}
	is(t, "Remove", dir.Remove(x, top, "t2"), api.OK)
	is(t, "Remove", dir.Remove(x, sub, "t2"), api.ENOENT)
	content(t, "top", x, top, dots()+raw(file, "t0")+raw(file, "t1")+free()+raw(file, "t3")+raw(file, "t4"))
	content(t, "sub", x, sub, raw(sub, ".")+raw(top, "..")+raw(link, "s0")+raw(link, "s1")+raw(link, "s2")+raw(link, "s3")+raw(link, "s4"))
}

// What only looks changes nothing, no time either.
func TestLookingChangesNothing(t *testing.T) {
	x := filled(t, 20, odd())
	x.Clock(9)
	was := picture(x)
	dir.Find(x, sub, "a")
	dir.List(x, sub)
	dir.Empty(x, sub)
	dir.Spare(x, sub)
	dir.Name(x, sub, file)
	gone(dir.Slots(x, sub))
	unchanged(t, "looked at", x, was)
}
