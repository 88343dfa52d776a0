package inode_test

import (
	"fmt"
	"math"
	"strings"
	"testing"

	"tinsel/api"
)

// edges: the first and the last place of each range, and of a block in the double one.
var edges = []int{0, 1, 5, 6, 7, 21, 22, 23, 37, 38, 53, 54, 261, 262, 276, 277}

// noughts: n bytes 0.
func noughts(n int) string { return strings.Repeat("\x00", n) }

// P2.4

func TestRead(t *testing.T) {
	x := withFile(t, 10)
	text := string(filled(200, 0))
	put(t, x, 1, 0, text)
	for _, off := range []int{0, 1, 62, 63, 64, 65, 127, 128, 129, 191, 192, 199, 200} {
		for _, n := range []int{0, 1, 2, 63, 64, 65, 128, 199, 200, 201, math.MaxInt32, math.MaxInt} {
			reads(t, "some", x, 1, off, n, text[off:off+min(n, 200-off)])
		}
	}
	for _, off := range []int{200, 201, 256, 1000, api.MaxFile, api.MaxFile + 1, math.MaxInt, math.MaxInt - 1} {
		for _, n := range []int{0, 1, 64, math.MaxInt} {
			reads(t, "behind the end", x, 1, off, n, "")
		}
	}
}

func TestReadRefuses(t *testing.T) {
	x := withFile(t, 2)
	put(t, x, 1, 0, "abc")
	for _, bad := range []int{-1, -2, -64, math.MinInt, math.MinInt32} {
		for _, good := range []int{0, 1, math.MaxInt, bad} {
			if b, e := x.Read(1, bad, good); len(b) != 0 || e != api.EINVAL {
				t.Errorf("Read(1, %d, %d): %q, %v, want EINVAL", bad, good, b, e)
			}
			if b, e := x.Read(1, good, bad); len(b) != 0 || e != api.EINVAL {
				t.Errorf("Read(1, %d, %d): %q, %v, want EINVAL", good, bad, b, e)
			}
		}
	}
}

func TestReadChangesNothing(t *testing.T) {
	x := withFile(t, 9)
	put(t, x, 1, 22*64, "abc")
	was := picture(x)
	x.Clock(5)
	reads(t, "a hole", x, 1, 0, 9, noughts(9))
	reads(t, "the text", x, 1, 22*64, 9, "abc")
	x.Clock(0)
	same(t, "read", picture(x), was)
}

// P2.5

func TestWriteAtEachEdge(t *testing.T) {
	for _, k := range edges {
		x := withFile(t, 9)
		what := fmt.Sprint("place ", k)
		put(t, x, 1, k*64+7, "abc")
		size(t, what, x, 1, k*64+10)
		reads(t, what, x, 1, k*64, 64, noughts(7)+"abc")
		want := []int{0}
		switch {
		case k >= 22:
			want = []int{0, 1, 2}
		case k >= 6:
			want = []int{0, 1}
		}
		owns(t, what, x, 1, want...)
		put(t, x, 1, k*64+9, "CD")
		owns(t, what+" again", x, 1, want...)
		reads(t, what+" again", x, 1, k*64+6, 64, "\x00abCD")
		if k > 0 {
			reads(t, what+", the byte ahead", x, 1, k*64-1, 2, noughts(2))
		}
	}
}

func TestWriteOverTheEdge(t *testing.T) {
	for _, k := range edges[1:] {
		x := withFile(t, 9)
		what := fmt.Sprint("place ", k)
		put(t, x, 1, k*64-1, "ab")
		size(t, what, x, 1, k*64+1)
		reads(t, what+": the last byte", x, 1, k*64-1, 1, "a")
		reads(t, what+": the first byte", x, 1, k*64, 1, "b")
		reads(t, what, x, 1, k*64-2, 9, "\x00ab")
		sound(t, what, x)
	}
}

func TestWriteLastAndFirstByte(t *testing.T) {
	for _, k := range edges {
		x := withFile(t, 9)
		put(t, x, 1, k*64+63, "z")
		blocks := stat(t, x, 1).Blocks
		put(t, x, 1, k*64, "a")
		size(t, "first behind last", x, 1, k*64+64)
		same(t, "no more blocks", stat(t, x, 1).Blocks, blocks)
		reads(t, "the place", x, 1, k*64, 64, "a"+noughts(62)+"z")
	}
}

func TestWriteWholeFile(t *testing.T) {
	x := withFile(t, 300)
	all := string(filled(api.MaxFile, 5))
	put(t, x, 1, 0, all)
	size(t, "whole", x, 1, api.MaxFile)
	reads(t, "whole", x, 1, 0, math.MaxInt, all)
	owns(t, "whole", x, 1, upTo(0, 296)...)
	room(t, "whole", x, 300, 4, 8, 7)
	put(t, x, 1, 5*64+1, "over")
	reads(t, "over it", x, 1, 0, api.MaxFile, all[:5*64+1]+"over"+all[5*64+5:])
	owns(t, "over it", x, 1, upTo(0, 296)...)
}

func TestWriteAroundMaxFile(t *testing.T) {
	x := withFile(t, 30)
	put(t, x, 1, api.MaxFile-1, "a")
	size(t, "the last byte", x, 1, api.MaxFile)
	owns(t, "the last byte", x, 1, 0, 1, 2)
	reads(t, "the last byte", x, 1, api.MaxFile-2, 9, "\x00a")
	wrote(t, "beyond the last byte", x, 1, api.MaxFile-1, 1, []byte("bc"))
	wrote(t, "far beyond it", x, 1, api.MaxFile-3, 3, filled(5*api.MaxFile, 1))
	reads(t, "beyond it", x, 1, api.MaxFile-4, 9, "\x00"+string(filled(3, 1)))
	was := picture(x)
	x.Clock(3)
	for _, off := range []int{api.MaxFile, api.MaxFile + 1, 2 * api.MaxFile, math.MaxInt, math.MaxInt - 1, math.MaxInt32} {
		noWrite(t, "from MaxFile on", x, 1, off, []byte("x"), api.EFBIG)
		noWrite(t, "from MaxFile on", x, 1, off, filled(100, 1), api.EFBIG)
	}
	x.Clock(0)
	same(t, "refused", picture(x), was)
}

func TestWriteMoreThanAFile(t *testing.T) {
	x := withFile(t, 300)
	wrote(t, "too much", x, 1, 0, api.MaxFile, filled(api.MaxFile+1, 5))
	size(t, "too much", x, 1, api.MaxFile)
	reads(t, "too much", x, 1, 0, math.MaxInt, string(filled(api.MaxFile, 5)))
}

func TestWriteNothing(t *testing.T) {
	x := withFile(t, 3)
	put(t, x, 1, 0, "abc")
	was := picture(x)
	x.Clock(4)
	for _, off := range []int{0, 1, 3, 4, 64, api.MaxFile - 1, api.MaxFile, api.MaxFile + 1, math.MaxInt} {
		wrote(t, "nil", x, 1, off, 0, nil)
		wrote(t, "empty", x, 1, off, 0, []byte{})
	}
	for _, off := range []int{-1, math.MinInt} {
		noWrite(t, "nil", x, 1, off, nil, api.EINVAL)
		noWrite(t, "empty", x, 1, off, []byte{}, api.EINVAL)
	}
	x.Clock(0)
	same(t, "nothing", picture(x), was)
}

func TestWriteRefuses(t *testing.T) {
	x := withFile(t, 3)
	put(t, x, 1, 0, "abc")
	was := picture(x)
	for _, off := range []int{-1, -2, -64, -api.MaxFile, math.MinInt, math.MinInt32} {
		noWrite(t, "below 0", x, 1, off, []byte("x"), api.EINVAL)
		noWrite(t, "below 0", x, 1, off, filled(200, 0), api.EINVAL)
	}
	same(t, "refused", picture(x), was)
}

func TestWriteTimes(t *testing.T) {
	x := withFile(t, 2)
	x.Clock(9)
	put(t, x, 1, 0, "abc")
	same(t, "times", stat(t, x, 1), api.Stat{Ino: 1, Size: 3, Blocks: 1, Mode: plain, Mtime: 9, Ctime: 9})
	x.Clock(-8)
	put(t, x, 1, 1, "b")
	same(t, "times of a write within", stat(t, x, 1), api.Stat{Ino: 1, Size: 3, Blocks: 1, Mode: plain, Mtime: -8, Ctime: -8})
	x.Clock(10)
	wrote(t, "short", x, 1, 64, 64, filled(65, 0))
	same(t, "times of a short one", stat(t, x, 1), api.Stat{Ino: 1, Size: 128, Blocks: 2, Mode: plain, Mtime: 10, Ctime: 10})
	x.Clock(11)
	noWrite(t, "full", x, 1, 128, []byte("x"), api.ENOSPC)
	same(t, "times of none", stat(t, x, 1), api.Stat{Ino: 1, Size: 128, Blocks: 2, Mode: plain, Mtime: 10, Ctime: 10})
}

func TestWriteTakesTheLowest(t *testing.T) {
	x := withFile(t, 20)
	alloc(t, x, 2)
	for k := range 5 {
		put(t, x, 1, k*64, "one")
		put(t, x, 2, k*64, "two")
	}
	is(t, "Truncate", x.Truncate(1, 64), api.OK)
	same(t, "Blocks", x.Blocks(), []int{0, 1, 3, 5, 7, 9})
	put(t, x, 2, 22*64, "the double one, the indirect one, the block")
	owns(t, "two", x, 2, 1, 3, 5, 7, 9, 2, 4, 6)
	put(t, x, 2, 6*64, "the indirect one, the block")
	owns(t, "two", x, 2, 1, 3, 5, 7, 9, 8, 10, 2, 4, 6)
	put(t, x, 2, 5*64, "a block")
	owns(t, "two", x, 2, 1, 3, 5, 7, 9, 11, 8, 10, 2, 4, 6)
	sound(t, "two", x)
}

// A place that is taken anew is empty, also where its block was full.
func TestWriteFindsNoughts(t *testing.T) {
	x := withFile(t, 4)
	put(t, x, 1, 0, string(filled(4*64, 0)))
	is(t, "Truncate", x.Truncate(1, 0), api.OK)
	put(t, x, 1, 6*64+9, "ab")
	is(t, "Truncate", x.Truncate(1, 22*64), api.OK)
	reads(t, "taken again", x, 1, 0, 22*64, noughts(6*64+9)+"ab"+noughts(16*64-11))
}

// short is a write that ends short, or not at all, as there are too few
// blocks; behind it used blocks are in use.
type short struct {
	what    string
	blocks  int
	ahead   int // bytes that are written ahead
	off, n  int
	written int
	used    int
}

func TestWriteEndsShort(t *testing.T) {
	for _, c := range []short{
		{"no block", 1, 1, 64, 1, 0, 1},
		{"no block for the second place", 1, 0, 0, 65, 64, 1},
		{"no block for the second place, from the middle on", 1, 0, 10, 300, 54, 1},
		{"no second block, from the last byte on", 2, 64, 127, 2, 1, 2},
		{"no indirect block", 6, 6 * 64, 6 * 64, 1, 0, 6},
		{"none behind the direct ones", 6, 0, 0, 7 * 64, 6 * 64, 6},
		{"no block for the indirect one", 7, 6 * 64, 6 * 64, 1, 0, 6},
		{"none behind the direct ones, one left", 7, 0, 0, 7 * 64, 6 * 64, 6},
		{"one place behind the indirect one", 8, 0, 0, 9 * 64, 7 * 64, 8},
		{"no block, the indirect one is there", 8, 7 * 64, 7 * 64, 5, 0, 8},
		{"no double one", 23, 22 * 64, 22 * 64, 1, 0, 23},
		{"no indirect one for the double one", 24, 22 * 64, 22 * 64, 1, 0, 23},
		{"no block for the double one's", 25, 22 * 64, 22 * 64, 1, 0, 23},
		{"one place behind the double one", 26, 22 * 64, 22 * 64, 65, 64, 26},
		{"none behind the indirect one", 23, 0, 0, api.MaxFile, 22 * 64, 23},
		{"none behind the indirect one, one left", 24, 0, 0, api.MaxFile, 22 * 64, 23},
		{"none behind the indirect one, two left", 25, 0, 0, api.MaxFile, 22 * 64, 23},
		{"no block, the double one is there", 41, 38 * 64, 38 * 64, 1, 0, 41},
		{"no block for a second one below the double one", 42, 38 * 64, 38 * 64, 1, 0, 41},
		{"one place of a second one below the double one", 43, 38 * 64, 38 * 64, 99, 64, 43},
		{"over the second one", 42, 0, 0, 39 * 64, 38 * 64, 41},
		{"the last place's", 295, 0, 0, api.MaxFile, 277 * 64, 295},
		{"the last place", 295, 277 * 64, api.MaxFile - 1, 9, 0, 295},
	} {
		x := withFile(t, c.blocks)
		put(t, x, 1, 0, string(filled(c.ahead, 3)))
		b, was := filled(c.n, 4), picture(x)
		x.Clock(6)
		if c.written == 0 {
			noWrite(t, c.what, x, 1, c.off, b, api.ENOSPC)
			x.Clock(0)
			same(t, c.what, picture(x), was)
		} else {
			wrote(t, c.what, x, 1, c.off, c.written, b)
			size(t, c.what, x, 1, c.off+c.written)
			reads(t, c.what, x, 1, c.off, c.n, string(b[:c.written]))
		}
		reads(t, c.what+": ahead", x, 1, 0, min(c.ahead, c.off), string(filled(min(c.ahead, c.off), 3)))
		room(t, c.what, x, c.blocks, c.blocks-c.used, 8, 7)
		sound(t, c.what, x)
	}
}

// What was given back is free for another inode, and empty.
func TestGivenBackIsFree(t *testing.T) {
	for left := 1; left <= 2; left++ {
		x := withFile(t, 3+left)
		alloc(t, x, 2)
		put(t, x, 1, 0, string(filled(3*64, 0)))
		noWrite(t, "the double one", x, 1, 22*64, []byte("x"), api.ENOSPC)
		for k := range left {
			put(t, x, 2, k*64+5, "abc")
			reads(t, "another one", x, 2, k*64, 9, noughts(5)+"abc")
		}
		owns(t, "another one", x, 2, upTo(3, 3+left)...)
		noWrite(t, "full", x, 2, left*64, []byte("x"), api.ENOSPC)
		size(t, "the first one", x, 1, 3*64)
		is(t, "Truncate", x.Truncate(1, api.MaxFile), api.OK)
		reads(t, "the first one", x, 1, 22*64, 64, noughts(64))
	}
}

// A write over a hole in the middle that can't be had ends there, though
// places behind it are there.
func TestShortAtAHole(t *testing.T) {
	x := withFile(t, 3)
	put(t, x, 1, 0, "a")
	put(t, x, 1, 3*64, "b")
	put(t, x, 1, 5*64, "c")
	wrote(t, "to the hole", x, 1, 60, 4, filled(5*64, 1))
	size(t, "to the hole", x, 1, 5*64+1)
	reads(t, "to the hole", x, 1, 60, 70, string(filled(4, 1))+noughts(66))
	reads(t, "behind it", x, 1, 3*64, 1, "b")
	noWrite(t, "in the hole", x, 1, 64, filled(3*64, 1), api.ENOSPC)
	wrote(t, "behind it", x, 1, 3*64, 64, filled(65, 1))
}

// A write that ends short within the size leaves it.
func TestShortKeepsTheSize(t *testing.T) {
	x := withFile(t, 1)
	is(t, "Truncate", x.Truncate(1, 1000), api.OK)
	wrote(t, "short", x, 1, 0, 64, filled(999, 1))
	size(t, "short", x, 1, 1000)
}

// P2.6

func TestTruncateRefuses(t *testing.T) {
	x := withFile(t, 4)
	put(t, x, 1, 0, "abc")
	was := picture(x)
	x.Clock(4)
	for _, n := range []int{-1, -2, math.MinInt, math.MinInt32} {
		is(t, "below 0", x.Truncate(1, n), api.EINVAL)
	}
	for _, n := range []int{api.MaxFile + 1, api.MaxFile + 64, math.MaxInt32, math.MaxInt, math.MaxInt - 63} {
		is(t, "above MaxFile", x.Truncate(1, n), api.EFBIG)
	}
	x.Clock(0)
	same(t, "refused", picture(x), was)
}

func TestTruncateToNothing(t *testing.T) {
	x := withFile(t, 296)
	put(t, x, 1, 0, string(filled(api.MaxFile, 1)))
	x.Clock(4)
	is(t, "Truncate", x.Truncate(1, 0), api.OK)
	same(t, "empty", stat(t, x, 1), api.Stat{Ino: 1, Mode: plain, Mtime: 4, Ctime: 4})
	owns(t, "empty", x, 1)
	room(t, "empty", x, 296, 296, 8, 7)
	reads(t, "empty", x, 1, 0, 9, "")
	put(t, x, 1, 0, string(filled(api.MaxFile, 2)))
	reads(t, "filled again", x, 1, 0, api.MaxFile, string(filled(api.MaxFile, 2)))
}

// blocksOf: how many blocks a file without holes has.
func blocksOf(size int) int {
	n := (size + 63) / 64
	all := n
	if n > 6 {
		all++
	}
	if n > 22 {
		all += 1 + (n-22+15)/16
	}
	return all
}

func TestTruncateToEachSize(t *testing.T) {
	all := filled(api.MaxFile, 7)
	whole := withFile(t, 296)
	put(t, whole, 1, 0, string(all))
	var sizes []int
	for _, k := range edges {
		sizes = append(sizes, k*64, k*64+1, k*64+31, k*64+63, k*64+64)
	}
	for _, n := range sizes {
		x, what := whole.Copy(), fmt.Sprint("to ", n)
		x.Clock(int64(n + 5))
		is(t, what, x.Truncate(1, n), api.OK)
		same(t, what, stat(t, x, 1), api.Stat{Ino: 1, Size: n, Blocks: blocksOf(n), Mode: plain, Mtime: int64(n + 5), Ctime: int64(n + 5)})
		owns(t, what, x, 1, upTo(0, blocksOf(n))...)
		sound(t, what, x)
		reads(t, what, x, 1, 0, api.MaxFile, string(all[:n]))
		is(t, what, x.Truncate(1, api.MaxFile), api.OK)
		reads(t, what+" and back", x, 1, 0, api.MaxFile, string(all[:n])+noughts(api.MaxFile-n))
		owns(t, what+" and back", x, 1, upTo(0, blocksOf(n))...)
	}
}

func TestTruncateGreater(t *testing.T) {
	x := withFile(t, 1)
	put(t, x, 1, 0, "abc")
	x.Clock(3)
	for _, n := range []int{4, 64, 65, 1000, api.MaxFile - 1, api.MaxFile} {
		is(t, "Truncate", x.Truncate(1, n), api.OK)
		same(t, "greater", stat(t, x, 1), api.Stat{Ino: 1, Size: n, Blocks: 1, Mode: plain, Mtime: 3, Ctime: 3})
		reads(t, "greater", x, 1, 0, api.MaxFile, "abc"+noughts(n-3))
	}
	room(t, "greater", x, 1, 0, 8, 7)
}

func TestTruncateToItsSize(t *testing.T) {
	x := withFile(t, 3)
	put(t, x, 1, 0, string(filled(100, 0)))
	x.Clock(3)
	is(t, "Truncate", x.Truncate(1, 100), api.OK)
	same(t, "as it was", stat(t, x, 1), api.Stat{Ino: 1, Size: 100, Blocks: 2, Mode: plain, Mtime: 3, Ctime: 3})
	reads(t, "as it was", x, 1, 0, 200, string(filled(100, 0)))
}

func TestTruncateToAHole(t *testing.T) {
	x := withFile(t, 20)
	put(t, x, 1, 64, "one")
	put(t, x, 1, 8*64, "eight")
	put(t, x, 1, 12*64, "twelve")
	put(t, x, 1, 40*64, "forty")
	owns(t, "ahead", x, 1, 0, 1, 2, 3, 4, 5, 6)

	is(t, "to a hole below the double one", x.Truncate(1, 39*64+9), api.OK)
	owns(t, "to a hole below the double one", x, 1, 0, 1, 2, 3)
	size(t, "to a hole below the double one", x, 1, 39*64+9)
	is(t, "to a hole behind a block", x.Truncate(1, 10*64+9), api.OK)
	owns(t, "to a hole behind a block", x, 1, 0, 1, 2)
	is(t, "to a hole ahead of all of the indirect one's", x.Truncate(1, 7*64+1), api.OK)
	owns(t, "to a hole ahead of all of the indirect one's", x, 1, 0)
	reads(t, "one", x, 1, 60, 9, noughts(4)+"one"+noughts(2))
	is(t, "to a hole among the direct ones", x.Truncate(1, 63), api.OK)
	owns(t, "to a hole among the direct ones", x, 1)
	reads(t, "noughts", x, 1, 0, 100, noughts(63))
	room(t, "at the end", x, 20, 20, 8, 7)
}

// Of two indirect blocks below the double one, the second goes; then the
// first, and the double one with it.
func TestTruncateBelowTheDouble(t *testing.T) {
	x := withFile(t, 20)
	put(t, x, 1, 24*64, "a")
	put(t, x, 1, 60*64, "b")
	owns(t, "both", x, 1, 0, 1, 2, 3, 4)
	is(t, "Truncate", x.Truncate(1, 60*64), api.OK)
	owns(t, "the first one", x, 1, 0, 1, 2)
	is(t, "Truncate", x.Truncate(1, 24*64+1), api.OK)
	owns(t, "the first one", x, 1, 0, 1, 2)
	is(t, "Truncate", x.Truncate(1, 24*64), api.OK)
	owns(t, "none", x, 1)
	sound(t, "none", x)
}

func TestTruncateLeavesOthers(t *testing.T) {
	x := withFile(t, 60)
	alloc(t, x, 2)
	for k := range 24 {
		put(t, x, 1, k*64, "one")
		put(t, x, 2, k*64, string(filled(64, k)))
	}
	other, _ := x.Owned(2)
	is(t, "Truncate", x.Truncate(1, 70), api.OK)
	owns(t, "the other one", x, 2, other...)
	for k := range 24 {
		reads(t, "the other one", x, 2, k*64, 64, string(filled(64, k)))
	}
	sound(t, "cut", x)
}

// P2.9

func TestOwned(t *testing.T) {
	x := withFile(t, 40)
	for _, k := range []int{277, 40, 39, 22, 20, 6, 3, 0} {
		put(t, x, 1, k*64, "x")
	}
	// 277: 0 1 2; 40: 3 4; 39: 5; 22: 6 7; 20: 8 9; 6: 10; 3: 11; 0: 12
	owns(t, "from behind", x, 1, 12, 11, 8, 10, 9, 0, 6, 7, 3, 5, 4, 1, 2)
	is(t, "Truncate", x.Truncate(1, 40*64), api.OK)
	owns(t, "cut", x, 1, 12, 11, 8, 10, 9, 0, 6, 7, 3, 5)
	put(t, x, 1, 21*64, "x")
	owns(t, "one more", x, 1, 12, 11, 8, 10, 9, 1, 0, 6, 7, 3, 5)
}

// P2.10

func TestBytesOfManyFiles(t *testing.T) {
	x := made(t, 600, 8)
	texts := make([][]byte, 9)
	for i := 1; i <= 8; i++ {
		alloc(t, x, i)
		texts[i] = filled(40*64+i, i)
	}
	for at := 0; at < 40*64; at += 50 { // the files' blocks lie among each other's
		for i := 1; i <= 8; i++ {
			put(t, x, i, at, string(texts[i][at:min(at+50, len(texts[i]))]))
		}
	}
	for i := 1; i <= 8; i++ {
		put(t, x, i, 40*64-50, string(texts[i][40*64-50:]))
		reads(t, "each", x, i, 0, api.MaxFile, string(texts[i]))
	}
	is(t, "Truncate", x.Truncate(3, 1), api.OK)
	is(t, "Links", x.Links(5, 0), api.OK)
	for _, i := range []int{1, 2, 4, 6, 7, 8} {
		reads(t, "those left", x, i, 0, api.MaxFile, string(texts[i]))
	}
	sound(t, "those left", x)
}

// Directories and links have bytes like files.
func TestBytesOfEachKind(t *testing.T) {
	x := made(t, 9, 3)
	for i, kind := range []api.Mode{api.TypeReg, api.TypeDir, api.TypeLink} {
		if ino, e := x.Alloc(kind, 0, 0); ino != i+1 || e != api.OK {
			t.Fatalf("Alloc: %d, %v", ino, e)
		}
		put(t, x, i+1, 60, "abcdefgh")
		is(t, "Truncate", x.Truncate(i+1, 66), api.OK)
		reads(t, "each kind", x, i+1, 59, 99, "\x00abcdef")
	}
	sound(t, "each kind", x)
}

// P2.12

func TestShortJustIfNoneIsLeft(t *testing.T) {
	for blocks := 1; blocks <= 60; blocks++ {
		x := withFile(t, blocks)
		n, e := x.Write(1, 0, filled(50*64, 0))
		if e != api.OK {
			t.Fatalf("%d blocks: %v", blocks, e)
		}
		if n%64 != 0 || blocksOf(n) > blocks || n < 50*64 && blocksOf(n+1) <= blocks {
			t.Errorf("%d blocks: Write %d", blocks, n)
		}
		room(t, "short", x, blocks, blocks-blocksOf(n), 8, 7)
		put(t, x, 1, 0, string(filled(n, 1))) // places that are there take none
		room(t, "over it", x, blocks, blocks-blocksOf(n), 8, 7)
	}
}
