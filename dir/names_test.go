package dir_test

import (
	"fmt"
	"math"
	"strings"
	"testing"

	"tinsel/api"
	"tinsel/dir"
	"tinsel/inode"
)

// goodNames: each of them is a name like any other.
var goodNames = []string{"a", "b", "ab", "A", " ", "\n", "\x01", "\x7f", "\x80", "\xff", "\xff\xfe", "ä", "...", "....",
	".a", "..a", "a.", "-", "*", "a b", "\\", letters(2), letters(26), letters(27), strings.Repeat("\xff", 27)}

// P4.1

func TestInit(t *testing.T) {
	x := table(t, 9)
	x.Clock(7)
	for _, c := range []struct{ parent, blocks int }{{top, 2}, {sub, 2}, {file, 2}, {link, 2}} {
		y := x.Copy()
		is(t, "Init", dir.Init(y, sub, c.parent), api.OK)
		content(t, "Init", y, sub, raw(sub, ".")+raw(uint32(c.parent), ".."))
		same(t, "Stat", stat(t, y, sub), api.Stat{Ino: sub, Size: 64, Blocks: 1, Mode: api.TypeDir | 0o700, Mtime: 7, Ctime: 7})
		same(t, "Blocks", y.Blocks(), []int{0, 1})
		finds(t, "itself", y, sub, ".", sub)
		finds(t, "its parent", y, sub, "..", c.parent)
		spare(t, "Init", y, sub, 0)
	}
	content(t, "top", x, top, dots())
}

func TestInitRefuses(t *testing.T) {
	x := table(t, 9)
	was := picture(x)
	for _, parent := range noInodes {
		is(t, fmt.Sprint("parent ", parent), dir.Init(x, sub, parent), api.EINVAL)
		is(t, fmt.Sprint("again, parent ", parent), dir.Init(x, top, parent), api.EINVAL)
	}
	is(t, "again", dir.Init(x, top, top), api.EEXIST)
	unchanged(t, "refused", x, was)
}

func TestInitOfSomeSize(t *testing.T) {
	for _, n := range []int{1, 31, 32, 33, 63, 64, 65, 100, api.MaxFile} {
		x := table(t, 9)
		is(t, "Truncate", x.Truncate(sub, n), api.OK)
		was := picture(x)
		is(t, fmt.Sprint("of size ", n), dir.Init(x, sub, top), api.EEXIST)
		is(t, fmt.Sprint("of size ", n, ", no parent"), dir.Init(x, sub, unused), api.EINVAL)
		unchanged(t, "refused", x, was)
		is(t, "Truncate", x.Truncate(sub, 0), api.OK)
		is(t, "size 0 again", dir.Init(x, sub, top), api.OK)
		content(t, "size 0 again", x, sub, raw(sub, ".")+raw(top, ".."))
	}
}

func TestInitWithoutBlock(t *testing.T) {
	x := table(t, 9)
	fillUp(t, x, 0)
	was := picture(x)
	is(t, "no block", dir.Init(x, sub, top), api.ENOSPC)
	is(t, "no block, no parent", dir.Init(x, sub, unused), api.EINVAL)
	is(t, "no block, again", dir.Init(x, top, top), api.EEXIST)
	unchanged(t, "refused", x, was)
	is(t, "Truncate", x.Truncate(file, 0), api.OK)
	fillUp(t, x, 1)
	is(t, "one block", dir.Init(x, sub, top), api.OK)
	content(t, "one block", x, sub, raw(sub, ".")+raw(top, ".."))
	_, left, _, _ := x.Room()
	same(t, "blocks left", left, 0)
}

// P4.2

func TestFind(t *testing.T) {
	x := table(t, 9)
	is(t, "Add", dir.Add(x, top, "a", file), api.OK)
	is(t, "Add", dir.Add(x, top, "abc", link), api.OK)
	is(t, "Add", dir.Add(x, top, letters(27), sub), api.OK)
	x.Clock(5)
	was := picture(x)
	finds(t, "some", x, top, ".", top)
	finds(t, "some", x, top, "..", top)
	finds(t, "some", x, top, "a", file)
	finds(t, "some", x, top, "abc", link)
	finds(t, "the longest", x, top, letters(27), sub)
	for _, name := range []string{"b", "A", "ab", "abcd", "bc", "a ", " a", "...", letters(26), letters(1)} {
		noFind(t, "none", x, top, name, api.ENOENT)
	}
	noFind(t, "of size 0", x, sub, ".", api.ENOENT)
	noFind(t, "of size 0", x, sub, "a", api.ENOENT)
	unchanged(t, "Find", x, was)
}

// What somebody wrote with Write.
func TestFindInAnySlots(t *testing.T) {
	long := "abcdefghijklmnopqrstuvwxyz12" // all 28 bytes
	x := filled(t, 20, raw(0, "gone")+
		raw(file, "one")+
		raw(link, "one")+
		raw(top, long)+
		raw(link, long[:27])+
		raw(sub, "")+
		raw(2, "two\x00three\x00")+
		raw(4294967295, "high")+
		raw(1<<24, "byte3")+raw(1<<16, "byte2")+raw(1<<8, "byte1")+
		raw(unused, "unused")+
		raw(file, "a/b")+
		raw(0, "")+
		raw(file, "end")[:31])
	was := picture(x)
	noFind(t, "number 0", x, sub, "gone", api.ENOENT)
	finds(t, "the first one", x, sub, "one", file)
	noFind(t, "of 28 bytes", x, sub, long, api.ENAMETOOLONG)
	finds(t, "of 27 bytes", x, sub, long[:27], link)
	noFind(t, "no name", x, sub, "", api.EINVAL)
	finds(t, "ahead of the first byte 0", x, sub, "two", 2)
	noFind(t, "behind it", x, sub, "three", api.ENOENT)
	noFind(t, "beyond it", x, sub, "two\x00three", api.EINVAL)
	finds(t, "the highest number", x, sub, "high", 4294967295)
	finds(t, "a number", x, sub, "byte3", 1<<24)
	finds(t, "a number", x, sub, "byte2", 1<<16)
	finds(t, "a number", x, sub, "byte1", 1<<8)
	finds(t, "not in use", x, sub, "unused", unused)
	noFind(t, "with a slash", x, sub, "a/b", api.EINVAL)
	noFind(t, "no whole slot", x, sub, "end", api.ENOENT)
	unchanged(t, "Find", x, was)
	put(t, x, sub, 14*32+31, "\x00")
	finds(t, "a whole slot", x, sub, "end", file)
}

// Holes are free slots.
func TestFindBehindAHole(t *testing.T) {
	x := table(t, 20)
	put(t, x, sub, 500*32, raw(file, "far"))
	finds(t, "far", x, sub, "far", file)
	spare(t, "far", x, sub, 500)
	tells(t, "far", x, sub, slot{500, api.Entry{Name: "far", Ino: file, Kind: api.TypeReg}})
	is(t, "Add", dir.Add(x, sub, "near", link), api.OK)
	content(t, "near", x, sub, raw(link, "near")+strings.Repeat(free(), 499)+raw(file, "far"))
	same(t, "Blocks", stat(t, x, sub).Blocks, 4)
	spare(t, "near", x, sub, 499)
}

// P4.3

func TestAdd(t *testing.T) {
	for _, name := range goodNames {
		for _, ino := range []int{top, file, link, sub} {
			x := table(t, 9)
			x.Clock(7)
			is(t, "Add", dir.Add(x, top, name, ino), api.OK)
			content(t, "Add", x, top, dots()+raw(uint32(ino), name))
			same(t, "Stat", stat(t, x, top), api.Stat{Ino: top, Size: 96, Blocks: 2, Mode: api.TypeDir | 0o755, Mtime: 7, Ctime: 7})
			same(t, "what it names", stat(t, x, file), api.Stat{Ino: file, Mode: api.TypeReg | 0o644})
			finds(t, "Add", x, top, name, ino)
			finds(t, "Add", x, top, ".", top)
			finds(t, "Add", x, top, "..", top)
			was := picture(x)
			x.Clock(8)
			is(t, "again", dir.Add(x, top, name, ino), api.EEXIST)
			is(t, "again, another number", dir.Add(x, top, name, top), api.EEXIST)
			x.Clock(7)
			unchanged(t, "again", x, was)
		}
	}
}

func TestAddOfManyInTheirOrder(t *testing.T) {
	x := table(t, 40)
	want := dots()
	for i, name := range goodNames {
		ino := i%4 + 1
		is(t, "Add", dir.Add(x, top, name, ino), api.OK)
		want += raw(uint32(ino), name)
		content(t, "Add", x, top, want)
	}
	for i, name := range goodNames {
		finds(t, "all", x, top, name, i%4+1)
		is(t, "again", dir.Add(x, top, name, file), api.EEXIST)
	}
}

func TestAddOfNoInode(t *testing.T) {
	x := table(t, 9)
	was := picture(x)
	for _, ino := range noInodes {
		is(t, fmt.Sprint("Add of ", ino), dir.Add(x, top, "a", ino), api.EINVAL)
		is(t, fmt.Sprint("Add of ", ino, ", a name that is there"), dir.Add(x, top, ".", ino), api.EINVAL)
	}
	unchanged(t, "refused", x, was)
}

func TestAddOfDots(t *testing.T) {
	x := table(t, 9)
	was := picture(x)
	is(t, ".", dir.Add(x, top, ".", top), api.EEXIST)
	is(t, "..", dir.Add(x, top, "..", top), api.EEXIST)
	unchanged(t, "refused", x, was)
	is(t, "..", dir.Add(x, sub, "..", top), api.OK)
	is(t, ".", dir.Add(x, sub, ".", sub), api.OK)
	content(t, "dots", x, sub, raw(top, "..")+raw(sub, "."))
}

// A free slot wherever it stands, with a name or without one.
func TestAddTakesTheFirstFree(t *testing.T) {
	old := []string{raw(file, "a"), raw(file, "b"), raw(file, "c"), raw(file, "d"), raw(file, "e")}
	for _, was := range []string{free(), raw(0, "gone"), raw(0, "new"), raw(0, strings.Repeat("x", 28))} {
		for _, at := range [][]int{{0}, {1}, {2}, {3}, {4}, {0, 4}, {1, 2}, {3, 4}, {0, 1, 2, 3, 4}} {
			now := append([]string(nil), old...)
			for _, k := range at {
				now[k] = was
			}
			x := filled(t, 9, strings.Join(now, ""))
			spare(t, "ahead", x, sub, len(at))
			for i, k := range at {
				name := fmt.Sprint("new", i)
				is(t, "Add", dir.Add(x, sub, name, link), api.OK)
				now[k] = raw(link, name)
				content(t, "Add", x, sub, strings.Join(now, ""))
				spare(t, "Add", x, sub, len(at)-i-1)
			}
			is(t, "one more", dir.Add(x, sub, "more", link), api.OK)
			content(t, "one more", x, sub, strings.Join(now, "")+raw(link, "more"))
		}
	}
}

// Bytes at the end that make no whole slot.
func TestAddBehindTheLastWhole(t *testing.T) {
	for whole := range 4 {
		for n := 1; n < 32; n++ {
			text := ""
			for k := range whole {
				text += raw(file, fmt.Sprint("f", k))
			}
			x := filled(t, 9, text+strings.Repeat("y", n))
			spare(t, "ahead", x, sub, 0)
			empty(t, "ahead", x, sub, whole == 0)
			is(t, "Add", dir.Add(x, sub, "a", link), api.OK)
			content(t, "Add", x, sub, text+raw(link, "a"))
			is(t, "Add", dir.Add(x, sub, "b", link), api.OK)
			content(t, "Add", x, sub, text+raw(link, "a")+raw(link, "b"))
		}
	}
}

// P4.3, P4.8: no block for the next slot.
func TestAddWithoutBlock(t *testing.T) {
	x := table(t, 9)
	is(t, "Init", dir.Init(x, sub, top), api.OK)
	is(t, "Add", dir.Add(x, sub, "a", file), api.OK)
	fillUp(t, x, 0)
	is(t, "the block has room", dir.Add(x, sub, "b", file), api.OK)
	was := picture(x)
	x.Clock(6)
	is(t, "no block", dir.Add(x, sub, "c", file), api.ENOSPC)
	is(t, "no block, no inode", dir.Add(x, sub, "c", unused), api.EINVAL)
	is(t, "no block, the name is there", dir.Add(x, sub, "a", file), api.EEXIST)
	x.Clock(0)
	unchanged(t, "refused", x, was)
	noFind(t, "refused", x, sub, "c", api.ENOENT)
	spare(t, "refused", x, sub, 0)
	content(t, "refused", x, sub, raw(sub, ".")+raw(top, "..")+raw(file, "a")+raw(file, "b"))

	is(t, "Remove", dir.Remove(x, sub, "a"), api.OK)
	is(t, "a free slot", dir.Add(x, sub, "c", file), api.OK)
	is(t, "none any more", dir.Add(x, sub, "d", file), api.ENOSPC)
	content(t, "c", x, sub, raw(sub, ".")+raw(top, "..")+raw(file, "c")+raw(file, "b"))
	is(t, "Truncate", x.Truncate(file, 0), api.OK)
	is(t, "a block", dir.Add(x, sub, "d", file), api.OK)
	content(t, "d", x, sub, raw(sub, ".")+raw(top, "..")+raw(file, "c")+raw(file, "b")+raw(file, "d"))
}

// An indirect block is needed, too; one alone is given back.
func TestAddWithoutIndirectBlock(t *testing.T) {
	for left := range 3 {
		x := table(t, 18)
		for k := range 12 {
			is(t, "Add", dir.Add(x, sub, fmt.Sprint("f", k), file), api.OK)
		}
		fillUp(t, x, left)
		was := picture(x)
		want := api.ENOSPC
		if left == 2 {
			want = api.OK
		}
		is(t, fmt.Sprint(left, " blocks left"), dir.Add(x, sub, "more", file), want)
		if left < 2 {
			unchanged(t, "refused", x, was)
		}
	}
}

// The first free slot lies in a hole, for which there is no block.
func TestAddInAHoleWithoutBlock(t *testing.T) {
	x := table(t, 9)
	put(t, x, sub, 3*32, raw(file, "far"))
	fillUp(t, x, 0)
	was := picture(x)
	is(t, "in a hole", dir.Add(x, sub, "near", file), api.ENOSPC)
	unchanged(t, "refused", x, was)
	spare(t, "refused", x, sub, 3)
}

// P4.4

func TestPut(t *testing.T) {
	for _, name := range goodNames {
		x := table(t, 9)
		is(t, "Add", dir.Add(x, top, "first", sub), api.OK)
		is(t, "Add", dir.Add(x, top, name, file), api.OK)
		is(t, "Add", dir.Add(x, top, "last", sub), api.OK)
		for i, ino := range []int{link, top, sub, file, file} {
			x.Clock(int64(i) + 2)
			is(t, "Put", dir.Put(x, top, name, ino), api.OK)
			content(t, "Put", x, top, dots()+raw(sub, "first")+raw(uint32(ino), name)+raw(sub, "last"))
			same(t, "Stat", stat(t, x, top), api.Stat{Ino: top, Size: 160, Blocks: 3, Mode: api.TypeDir | 0o755, Mtime: int64(i) + 2, Ctime: int64(i) + 2})
			finds(t, "Put", x, top, name, ino)
		}
	}
}

func TestPutRefuses(t *testing.T) {
	x := table(t, 9)
	is(t, "Add", dir.Add(x, top, "a", file), api.OK)
	was := picture(x)
	x.Clock(6)
	for _, ino := range noInodes {
		is(t, fmt.Sprint("Put of ", ino), dir.Put(x, top, "a", ino), api.EINVAL)
		is(t, fmt.Sprint("Put of ", ino, ", no such name"), dir.Put(x, top, "b", ino), api.EINVAL)
	}
	for _, name := range []string{"b", "aa", "A", "...", letters(27)} {
		is(t, "Put "+name, dir.Put(x, top, name, file), api.ENOENT)
	}
	is(t, "of size 0", dir.Put(x, sub, ".", file), api.ENOENT)
	x.Clock(0)
	unchanged(t, "refused", x, was)
}

func TestPutOfDots(t *testing.T) {
	x := table(t, 9)
	is(t, "..", dir.Put(x, top, "..", sub), api.OK)
	content(t, "..", x, top, raw(top, ".")+raw(sub, ".."))
	is(t, ".", dir.Put(x, top, ".", file), api.OK)
	content(t, ".", x, top, raw(file, ".")+raw(sub, ".."))
}

// The first one gets the number, and keeps its other bytes; a free one with
// the name is none.
func TestPutTheFirst(t *testing.T) {
	x := filled(t, 9, raw(0, "a")+raw(file, "b")+raw(4294967295, "a\x00z")+raw(link, "a")+"tail")
	is(t, "Put", dir.Put(x, sub, "a", top), api.OK)
	content(t, "Put", x, sub, raw(0, "a")+raw(file, "b")+raw(top, "a\x00z")+raw(link, "a")+"tail")
	fillUp(t, x, 0)
	is(t, "no block left", dir.Put(x, sub, "b", link), api.OK)
	content(t, "no block left", x, sub, raw(0, "a")+raw(link, "b")+raw(top, "a\x00z")+raw(link, "a")+"tail")
}

func TestRemove(t *testing.T) {
	for _, name := range goodNames {
		x := table(t, 9)
		is(t, "Add", dir.Add(x, top, "first", sub), api.OK)
		is(t, "Add", dir.Add(x, top, name, file), api.OK)
		is(t, "Add", dir.Add(x, top, "last", sub), api.OK)
		x.Clock(9)
		is(t, "Remove", dir.Remove(x, top, name), api.OK)
		content(t, "Remove", x, top, dots()+raw(sub, "first")+free()+raw(sub, "last"))
		same(t, "Stat", stat(t, x, top), api.Stat{Ino: top, Size: 160, Blocks: 3, Mode: api.TypeDir | 0o755, Mtime: 9, Ctime: 9})
		same(t, "what it named", stat(t, x, file), api.Stat{Ino: file, Mode: api.TypeReg | 0o644})
		noFind(t, "Remove", x, top, name, api.ENOENT)
		finds(t, "the others", x, top, "first", sub)
		finds(t, "the others", x, top, "last", sub)
		spare(t, "Remove", x, top, 1)
		was := picture(x)
		x.Clock(10)
		is(t, "again", dir.Remove(x, top, name), api.ENOENT)
		x.Clock(9)
		unchanged(t, "again", x, was)
	}
}

func TestRemoveOfDotsAndTheLast(t *testing.T) {
	x := table(t, 9)
	is(t, "Add", dir.Add(x, top, "a", file), api.OK)
	is(t, "the last", dir.Remove(x, top, "a"), api.OK)
	content(t, "the last", x, top, dots()+free())
	is(t, ".", dir.Remove(x, top, "."), api.OK)
	content(t, ".", x, top, free()+raw(top, "..")+free())
	is(t, "..", dir.Remove(x, top, ".."), api.OK)
	content(t, "..", x, top, free()+free()+free())
	spare(t, "all", x, top, 3)
	is(t, "Init", dir.Init(x, top, top), api.EEXIST)
}

func TestRemoveTheFirst(t *testing.T) {
	x := filled(t, 9, raw(0, "a")+raw(file, "b")+raw(4294967295, "a\x00z")+raw(link, "a")+"tail")
	fillUp(t, x, 0)
	is(t, "Remove", dir.Remove(x, sub, "a"), api.OK)
	content(t, "Remove", x, sub, raw(0, "a")+raw(file, "b")+free()+raw(link, "a")+"tail")
	finds(t, "the second one", x, sub, "a", link)
	is(t, "Remove", dir.Remove(x, sub, "a"), api.OK)
	content(t, "Remove", x, sub, raw(0, "a")+raw(file, "b")+free()+free()+"tail")
	noFind(t, "both", x, sub, "a", api.ENOENT)
	is(t, "Remove", dir.Remove(x, sub, "a"), api.ENOENT)
}

// P4.7

func TestNamesComeAndGo(t *testing.T) {
	x := table(t, 40)
	for i, name := range goodNames {
		is(t, "Add", dir.Add(x, top, name, i%4+1), api.OK)
		for k, other := range goodNames {
			if k <= i {
				finds(t, "added", x, top, other, k%4+1)
			} else {
				noFind(t, "not yet", x, top, other, api.ENOENT)
			}
		}
	}
	for i, name := range goodNames {
		y := x.Copy()
		is(t, "Remove", dir.Remove(y, top, name), api.OK)
		for k, other := range goodNames {
			if k == i {
				noFind(t, "removed", y, top, other, api.ENOENT)
			} else {
				finds(t, "not removed", y, top, other, k%4+1)
			}
		}
	}
}

func TestAddBehindRemoves(t *testing.T) {
	x := table(t, 40)
	for k := range 10 {
		is(t, "Add", dir.Add(x, top, fmt.Sprint("f", k), file), api.OK)
	}
	for _, k := range []int{7, 2, 9, 4} {
		is(t, "Remove", dir.Remove(x, top, fmt.Sprint("f", k)), api.OK)
	}
	for i, want := range []int{4, 6, 9, 11, 12, 13} {
		name := fmt.Sprint("g", i)
		is(t, "Add", dir.Add(x, top, name, link), api.OK)
		at := -1
		for k, y := range dir.Slots(x, top) {
			if y.Name == name {
				at = k
			}
		}
		same(t, name+" in slot", at, want)
	}
}

// P4.8

// places: how many places n blocks make, with the indirect blocks that lead to them.
func places(n int) int {
	most := 0
	for p := 0; p <= 278; p++ {
		need := p
		if p > 6 {
			need++
		}
		if p > 22 {
			need += 1 + (p-22+15)/16
		}
		if need <= n {
			most = p
		}
	}
	return most
}

// fillDir: names till Add answers an error; how many slots there are, and the error.
func fillDir(x *inode.Table, d int) (int, api.Errno) {
	for k := 0; ; k++ {
		if e := dir.Add(x, d, fmt.Sprint("f", k), file); e != api.OK {
			return k, e
		}
	}
}

func TestFull(t *testing.T) {
	for _, n := range []int{1, 2, 5, 6, 7, 8, 9, 22, 23, 24, 25, 26, 27, 40, 41, 42, 43, 293, 294, 295, 296, 297} {
		x := table(t, n+1) // top has one
		slots, e := fillDir(x, sub)
		is(t, fmt.Sprint("full, ", n, " blocks"), e, api.ENOSPC)
		same(t, fmt.Sprint("slots of ", n, " blocks"), slots, 2*places(n))
		same(t, "Size", stat(t, x, sub).Size, slots*32)
		was := picture(x)
		is(t, "still full", dir.Add(x, sub, "more", file), api.ENOSPC)
		unchanged(t, "full", x, was)
		spare(t, "full", x, sub, 0)
	}
}

func TestFiveHundredAndFiftySix(t *testing.T) {
	x := table(t, 400)
	is(t, "Init", dir.Init(x, sub, top), api.OK)
	n, e := fillDir(x, sub)
	is(t, "one more", e, api.ENOSPC)
	same(t, "slots beside the dots", n, 554)
	same(t, "Size", stat(t, x, sub).Size, api.MaxFile)
	_, left, _, _ := x.Room()
	same(t, "blocks are left", left, 400-1-296)
	l, _ := dir.List(x, sub)
	same(t, "entries", len(l), 556)
	finds(t, "the first", x, sub, "f0", file)
	finds(t, "the last", x, sub, "f553", file)
	is(t, "the name is there", dir.Add(x, sub, "f553", file), api.EEXIST)
	is(t, "no inode", dir.Add(x, sub, "more", unused), api.EINVAL)

	for _, k := range []int{300, 0, 553} {
		name := fmt.Sprint("f", k)
		is(t, "Remove", dir.Remove(x, sub, name), api.OK)
		spare(t, "Remove", x, sub, 1)
		is(t, "a free slot", dir.Add(x, sub, "more", link), api.OK)
		at := -1
		for s, y := range dir.Slots(x, sub) {
			if y.Name == "more" {
				at = s
			}
		}
		same(t, "slot", at, k+2)
		is(t, "full again", dir.Add(x, sub, name, file), api.ENOSPC)
		is(t, "Remove", dir.Remove(x, sub, "more"), api.OK)
		is(t, "back", dir.Add(x, sub, name, file), api.OK)
	}
	same(t, "Size", stat(t, x, sub).Size, api.MaxFile)
}

// The last slot, where bytes that make no whole one stand up to MaxFile's end.
func TestTheLastSlot(t *testing.T) {
	x := table(t, 400)
	for k := range 555 {
		put(t, x, sub, k*32, raw(file, fmt.Sprint("f", k)))
	}
	put(t, x, sub, 555*32, strings.Repeat("z", 31))
	spare(t, "ahead", x, sub, 0)
	is(t, "the last", dir.Add(x, sub, "last", link), api.OK)
	same(t, "Size", stat(t, x, sub).Size, api.MaxFile)
	finds(t, "the last", x, sub, "last", link)
	is(t, "one more", dir.Add(x, sub, "more", link), api.ENOSPC)
}

// A hole up to MaxFile's end is free slots.
func TestHoleToTheEnd(t *testing.T) {
	x := table(t, 400)
	is(t, "Truncate", x.Truncate(sub, api.MaxFile), api.OK)
	spare(t, "a hole", x, sub, 556)
	empty(t, "a hole", x, sub, true)
	n, e := fillDir(x, sub)
	is(t, "full", e, api.ENOSPC)
	same(t, "slots", n, 556)
}

// wrongNames: what each of them is refused with.
var wrongNames = map[string]api.Errno{
	"":                             api.EINVAL,
	"/":                            api.EINVAL,
	"a/":                           api.EINVAL,
	"/a":                           api.EINVAL,
	"a/b":                          api.EINVAL,
	"\x00":                         api.EINVAL,
	"a\x00":                        api.EINVAL,
	"\x00a":                        api.EINVAL,
	".\x00":                        api.EINVAL,
	letters(26) + "/":              api.EINVAL,
	letters(26) + "\x00":           api.EINVAL,
	letters(27) + "/":              api.EINVAL,
	letters(27) + "\x00":           api.EINVAL,
	letters(5000) + "/":            api.EINVAL,
	letters(28):                    api.ENAMETOOLONG,
	letters(29):                    api.ENAMETOOLONG,
	letters(32):                    api.ENAMETOOLONG,
	letters(5000):                  api.ENAMETOOLONG,
	strings.Repeat("\xff", 28):     api.ENAMETOOLONG,
	strings.Repeat(".", 28):        api.ENAMETOOLONG,
	letters(math.MaxUint16 + 1):    api.ENAMETOOLONG,
	letters(256) + "\x00" + "tail": api.EINVAL,
}

func TestWrongNames(t *testing.T) {
	x := table(t, 9)
	fillUp(t, x, 0)
	was := picture(x)
	for name, want := range wrongNames {
		noFind(t, "wrong", x, top, name, want)
		is(t, "Remove "+brief(name), dir.Remove(x, top, name), want)
		for _, ino := range []int{file, top, unused, 0, -1, math.MaxInt} {
			is(t, "Add "+brief(name), dir.Add(x, top, name, ino), want)
			is(t, "Put "+brief(name), dir.Put(x, top, name, ino), want)
		}
	}
	unchanged(t, "refused", x, was)
}
