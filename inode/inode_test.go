package inode_test

import (
	"math"
	"slices"
	"testing"

	"tinsel/api"
	"tinsel/inode"
)

// P2.1

func TestNew(t *testing.T) {
	for _, n := range []int{1, 2, 63, 64, 65, 1000, 4095, api.MaxStore} {
		for _, m := range []int{1, 2, 64, 4095, api.MaxInodes} {
			x := made(t, n, m)
			room(t, "new", x, n, n, m, m)
			same(t, "Used", x.Used(), []int{})
			same(t, "Blocks", x.Blocks(), []int{})
			same(t, "Now", x.Now(), 0)
		}
	}
}

func TestNewRefuses(t *testing.T) {
	bad := []int{0, -1, -64, 4097, 65536, math.MaxInt32, math.MinInt32, math.MaxInt, math.MinInt}
	refuse := func(n, m int) {
		t.Helper()
		if x, e := inode.New(n, m); x != nil || e != api.EINVAL {
			t.Errorf("New(%d, %d): %v, %v, want nil, EINVAL", n, m, x, e)
		}
	}
	for _, n := range bad {
		refuse(n, 1)
		refuse(n, api.MaxInodes)
		refuse(1, n)
		refuse(api.MaxStore, n)
		for _, m := range bad {
			refuse(n, m)
		}
	}
}

func TestTablesAreApart(t *testing.T) {
	x, y := withFile(t, 4), withFile(t, 4)
	was := picture(y)
	x.Clock(5)
	put(t, x, 1, 0, "abc")
	is(t, "Links", x.Links(1, 1), api.OK)
	alloc(t, x, 2)
	same(t, "the other one", picture(y), was)
}

func TestClock(t *testing.T) {
	x := made(t, 1, 1)
	for _, at := range []int64{1, 0, -1, math.MaxInt64, math.MinInt64, 1 << 40} {
		x.Clock(at)
		same(t, "Now", x.Now(), at)
	}
	same(t, "a copy's", x.Copy().Now(), int64(1<<40))
}

func TestRoom(t *testing.T) {
	x := made(t, 5, 3)
	room(t, "new", x, 5, 5, 3, 3)
	alloc(t, x, 1)
	alloc(t, x, 2)
	room(t, "two inodes", x, 5, 5, 3, 1)
	put(t, x, 2, 0, "a")
	put(t, x, 2, 64, "a")
	room(t, "two blocks", x, 5, 3, 3, 1)
	is(t, "Links", x.Links(2, 0), api.OK)
	room(t, "one inode", x, 5, 5, 3, 2)
}

func TestCopy(t *testing.T) {
	x := withFile(t, 64)
	alloc(t, x, 2)
	x.Clock(7)
	put(t, x, 1, 0, "first")
	put(t, x, 1, 6*64, "behind the indirect block")
	put(t, x, 2, 22*64, "behind the double one")
	is(t, "Hold", x.Hold(1), api.OK)
	is(t, "Links", x.Links(2, 3), api.OK)
	c := x.Copy()
	if c == nil || c == x {
		t.Fatalf("Copy: %p of %p", c, x)
	}
	was := picture(x)
	same(t, "the copy", picture(c), was)

	x.Clock(9)
	put(t, x, 1, 0, "FIRST")
	put(t, x, 1, 6*64, "BEHIND")
	put(t, x, 2, 38*64, "more")
	alloc(t, x, 3)
	is(t, "Release", x.Release(1), api.OK)
	is(t, "Links", x.Links(2, 1), api.OK)
	same(t, "the copy, the first changed", picture(c), was)

	was = picture(x)
	c.Clock(11)
	put(t, c, 2, 22*64, "copied")
	put(t, c, 2, 6*64, "x")
	is(t, "Truncate", c.Truncate(1, 2), api.OK)
	is(t, "SetMode", c.SetMode(2, 0), api.OK)
	is(t, "SetOwner", c.SetOwner(2, 4, 5), api.OK)
	is(t, "SetTimes", c.SetTimes(2, 4, 5), api.OK)
	alloc(t, c, 3)
	alloc(t, c, 4)
	same(t, "the first, the copy changed", picture(x), was)
	sound(t, "the first", x)
	sound(t, "the copy", c)
}

// P2.2

func TestIsUsedBlocks(t *testing.T) {
	x := made(t, 9, 5)
	for i := 1; i <= 5; i++ {
		alloc(t, x, i)
	}
	put(t, x, 2, 0, "a")
	put(t, x, 4, 0, "a")
	put(t, x, 5, 0, "a")
	same(t, "Blocks", x.Blocks(), []int{0, 1, 2})
	is(t, "Links", x.Links(1, 0), api.OK)
	is(t, "Links", x.Links(4, 0), api.OK)
	same(t, "Used", x.Used(), []int{2, 3, 5})
	same(t, "Blocks", x.Blocks(), []int{0, 2})
	for _, i := range []int{2, 3, 5} {
		same(t, "Is", x.Is(i), true)
	}
	for _, i := range []int{0, 1, 4, 6, 7, -1, -2, math.MaxInt, math.MinInt} {
		same(t, "Is", x.Is(i), false)
	}
}

// A file of MaxFile bytes has 278 blocks, and 18 that lead to these.
func TestGreatestTable(t *testing.T) {
	x := made(t, api.MaxStore, api.MaxInodes)
	for i := 1; i <= api.MaxInodes; i++ {
		alloc(t, x, i)
	}
	same(t, "Used", slices.Equal(x.Used(), upTo(1, api.MaxInodes+1)), true)
	if i, e := x.Alloc(plain, 0, 0); i != 0 || e != api.ENOSPC {
		t.Errorf("Alloc: %d, %v, want 0, ENOSPC", i, e)
	}
	for i := 1; i <= 13; i++ {
		put(t, x, i, 0, string(filled(api.MaxFile, i)))
		same(t, "Blocks", stat(t, x, i).Blocks, 296)
	}
	room(t, "13 files", x, 4096, 4096-13*296, 4096, 0)
	wrote(t, "the 14th", x, 14, 0, 232*64, filled(api.MaxFile, 14))
	room(t, "14 files", x, 4096, 0, 4096, 0)
	noWrite(t, "one more place", x, 14, 232*64, []byte("x"), api.ENOSPC)
	noWrite(t, "another file", x, api.MaxInodes, 0, []byte("x"), api.ENOSPC)
	same(t, "Blocks", slices.Equal(x.Blocks(), upTo(0, api.MaxStore)), true)
	for i := 1; i <= 13; i++ {
		reads(t, "full", x, i, 0, api.MaxFile, string(filled(api.MaxFile, i)))
	}
	reads(t, "the last one", x, 14, 0, api.MaxFile, string(filled(232*64, 14)))
	sound(t, "full", x)
}

// P2.3

func TestAlloc(t *testing.T) {
	x := made(t, 3, 6)
	x.Clock(77)
	modes := []api.Mode{api.TypeReg, api.TypeDir, api.TypeLink, api.TypeReg | api.PermMask, api.TypeDir | 0o1755, api.TypeLink | 0o777}
	for i, mode := range modes {
		ino, e := x.Alloc(mode, i*3, math.MaxInt-i)
		if ino != i+1 || e != api.OK {
			t.Fatalf("Alloc(%o): %d, %v", mode, ino, e)
		}
		same(t, "a new one", stat(t, x, ino), api.Stat{Ino: i + 1, Uid: i * 3, Gid: math.MaxInt - i, Mode: mode, Atime: 77, Mtime: 77, Ctime: 77})
		owns(t, "a new one", x, ino)
		reads(t, "a new one", x, ino, 0, 100, "")
		same(t, "its holds", holds(x, ino), 0)
	}
	for range 2 {
		if ino, e := x.Alloc(plain, 0, 0); ino != 0 || e != api.ENOSPC {
			t.Errorf("none left: Alloc %d, %v, want 0, ENOSPC", ino, e)
		}
	}
	room(t, "all in use", x, 3, 3, 6, 0)
}

func TestAllocRefuses(t *testing.T) {
	x := made(t, 1, 1)
	refuse := func(mode api.Mode, uid, gid int) {
		t.Helper()
		if ino, e := x.Alloc(mode, uid, gid); ino != 0 || e != api.EINVAL {
			t.Errorf("Alloc(%o, %d, %d): %d, %v, want 0, EINVAL", int(mode), uid, gid, ino, e)
		}
	}
	modes := []api.Mode{0, 0o644, api.PermMask, api.TypePipe, api.TypePipe | 0o644, api.TypeMask, api.TypeMask | 0o644,
		0o020000, 0o060000, 0o140000, 0o110000, 0o130000, 0o050000, 0o150000, 0o160000,
		plain | 0o200000, plain | 0o1000000, plain | 1<<40, api.TypeDir | math.MinInt, -1, math.MaxInt, math.MinInt, -plain}
	bad := []int{-1, -2, math.MinInt, math.MinInt32}
	for range 2 { // the second time with none left: EINVAL goes first
		for _, mode := range modes {
			refuse(mode, 0, 0)
			refuse(mode, -1, -1)
		}
		for _, id := range bad {
			refuse(plain, id, 0)
			refuse(plain, 0, id)
			refuse(plain, id, id)
		}
		x.Alloc(plain, 0, 0)
	}
	same(t, "Used", x.Used(), []int{1})
}

func TestAllocTakesTheLowest(t *testing.T) {
	x := made(t, 40, 5)
	for i := 1; i <= 5; i++ {
		alloc(t, x, i)
		put(t, x, i, 0, "old")
		put(t, x, i, 6*64, "old")
		put(t, x, i, 22*64, "old")
		is(t, "Hold", x.Hold(i), api.OK)
		is(t, "Links", x.Links(i, 3), api.OK)
	}
	x.Clock(8)
	for _, i := range []int{5, 2, 4} {
		is(t, "Links", x.Links(i, -3), api.OK)
		is(t, "Release", x.Release(i), api.OK)
	}
	for _, i := range []int{2, 4, 5} {
		alloc(t, x, i)
		same(t, "a new one", stat(t, x, i), api.Stat{Ino: i, Mode: plain, Atime: 8, Mtime: 8, Ctime: 8})
		owns(t, "a new one", x, i)
		is(t, "Release of a new one", x.Release(i), api.EINVAL)
		is(t, "Truncate", x.Truncate(i, api.MaxFile), api.OK)
		reads(t, "a new one", x, i, 0, api.MaxFile, string(make([]byte, api.MaxFile)))
	}
	reads(t, "an old one", x, 3, 22*64, 9, "old")
}

// P2.7

func TestStat(t *testing.T) {
	x := made(t, 30, 3)
	alloc(t, x, 1)
	x.Clock(3)
	if ino, e := x.Alloc(api.TypeDir|0o1750, 11, 12); ino != 2 || e != api.OK {
		t.Fatalf("Alloc: %d, %v", ino, e)
	}
	x.Clock(4)
	is(t, "SetTimes", x.SetTimes(2, -5, 6), api.OK)
	x.Clock(5)
	put(t, x, 2, 22*64+1, "ab")
	x.Clock(6)
	is(t, "Links", x.Links(2, 7), api.OK)
	same(t, "Stat", stat(t, x, 2), api.Stat{Ino: 2, Links: 7, Uid: 11, Gid: 12, Size: 22*64 + 3, Blocks: 3,
		Mode: api.TypeDir | 0o1750, Atime: -5, Mtime: 5, Ctime: 6})
	same(t, "the other one", stat(t, x, 1), api.Stat{Ino: 1, Mode: plain})
}

func TestSetMode(t *testing.T) {
	for _, kind := range []api.Mode{api.TypeReg, api.TypeDir, api.TypeLink} {
		x := made(t, 1, 1)
		x.Clock(1)
		x.Alloc(kind|0o644, 3, 4)
		x.Clock(2)
		for _, m := range []api.Mode{0, 0o7777, 0o755, 0o4000, api.TypePipe | 0o11, api.TypeMask | 1, -1, math.MinInt, math.MaxInt, 1 << 40, 0o10000} {
			is(t, "SetMode", x.SetMode(1, m), api.OK)
			same(t, "SetMode", stat(t, x, 1), api.Stat{Ino: 1, Uid: 3, Gid: 4, Mode: kind | m&0o7777, Atime: 1, Mtime: 1, Ctime: 2})
		}
	}
}

func TestSetOwner(t *testing.T) {
	x := made(t, 1, 1)
	x.Clock(1)
	x.Alloc(plain|api.SetUid, 3, 4)
	at := int64(1)
	owner := func(uid, gid, wantUid, wantGid int) {
		t.Helper()
		at++
		x.Clock(at)
		is(t, "SetOwner", x.SetOwner(1, uid, gid), api.OK)
		same(t, "SetOwner", stat(t, x, 1), api.Stat{Ino: 1, Uid: wantUid, Gid: wantGid, Mode: plain | api.SetUid, Atime: 1, Mtime: 1, Ctime: at})
	}
	owner(-1, -1, 3, 4)
	owner(5, -1, 5, 4)
	owner(-1, 6, 5, 6)
	owner(0, 0, 0, 0)
	owner(7, 8, 7, 8)
	owner(math.MaxInt, math.MaxInt, math.MaxInt, math.MaxInt)
	was := picture(x)
	x.Clock(at + 1)
	for _, id := range []int{-2, -3, math.MinInt, math.MinInt32} {
		is(t, "SetOwner", x.SetOwner(1, id, 0), api.EINVAL)
		is(t, "SetOwner", x.SetOwner(1, 0, id), api.EINVAL)
		is(t, "SetOwner", x.SetOwner(1, -1, id), api.EINVAL)
		is(t, "SetOwner", x.SetOwner(1, id, -1), api.EINVAL)
		is(t, "SetOwner", x.SetOwner(1, id, id), api.EINVAL)
	}
	x.Clock(at)
	same(t, "refused", picture(x), was)
}

func TestSetTimes(t *testing.T) {
	x := made(t, 1, 1)
	x.Alloc(plain, 3, 4)
	for i, at := range []int64{9, 0, -9, math.MaxInt64, math.MinInt64} {
		x.Clock(int64(i + 20))
		is(t, "SetTimes", x.SetTimes(1, at, -at/2), api.OK)
		same(t, "SetTimes", stat(t, x, 1), api.Stat{Ino: 1, Uid: 3, Gid: 4, Mode: plain, Atime: at, Mtime: -at / 2, Ctime: int64(i + 20)})
	}
}

// P2.8

func TestLinks(t *testing.T) {
	x := made(t, 1, 1)
	x.Alloc(plain, 3, 4)
	links := func(by, want int, at int64) {
		t.Helper()
		x.Clock(at)
		is(t, "Links", x.Links(1, by), api.OK)
		same(t, "Links", stat(t, x, 1), api.Stat{Ino: 1, Links: want, Uid: 3, Gid: 4, Mode: plain, Ctime: at})
	}
	links(1, 1, 5)
	links(api.LinkMax-1, api.LinkMax, 6)
	links(0, api.LinkMax, 7)
	links(-1, api.LinkMax-1, 8)
	links(1, api.LinkMax, 9)
	links(1-api.LinkMax, 1, 10)
	links(0, 1, 11)
	x.Clock(12)
	is(t, "the last one goes", x.Links(1, -1), api.OK)
	same(t, "the last one went: Is", x.Is(1), false)
}

func TestLinksRefuses(t *testing.T) {
	for _, n := range []int{0, 1, 5, api.LinkMax} {
		x := withFile(t, 1)
		is(t, "Hold", x.Hold(1), api.OK)
		is(t, "Links", x.Links(1, n), api.OK)
		x.Clock(3)
		was := picture(x)
		for _, by := range []int{-n - 1, -n - 2, -api.LinkMax - 1, math.MinInt, math.MinInt + 1, math.MinInt32} {
			is(t, "below 0", x.Links(1, by), api.EINVAL)
		}
		for _, by := range []int{api.LinkMax + 1 - n, api.LinkMax + 2 - n, 17, math.MaxInt, math.MaxInt - 1, math.MaxInt - n, math.MaxInt32} {
			is(t, "above LinkMax", x.Links(1, by), api.EMLINK)
		}
		same(t, "refused", picture(x), was)
	}
}

func TestHoldChangesNoTime(t *testing.T) {
	x := withFile(t, 1)
	is(t, "Links", x.Links(1, 1), api.OK)
	x.Clock(5)
	was := stat(t, x, 1)
	for i := range 40 {
		is(t, "Hold", x.Hold(1), api.OK)
		same(t, "holds", holds(x, 1), i+1)
	}
	for range 40 {
		is(t, "Release", x.Release(1), api.OK)
	}
	same(t, "Stat", stat(t, x, 1), was)
	is(t, "none left", x.Release(1), api.EINVAL)
	same(t, "Stat", stat(t, x, 1), was)
}

// gone: is it in use no more, and what it owned free?
func gone(t *testing.T, what string, x *inode.Table, ino, blocks int) {
	t.Helper()
	same(t, what+": Is", x.Is(ino), false)
	is(t, what+": Hold", x.Hold(ino), api.ENOENT)
	is(t, what+": Links", x.Links(ino, 1), api.ENOENT)
	room(t, what, x, blocks, blocks, 8, 8)
	same(t, what+": Blocks", x.Blocks(), []int{})
}

func TestLastLinkThenLastHold(t *testing.T) {
	x := withFile(t, 30)
	put(t, x, 1, 0, string(filled(24*64, 1)))
	is(t, "Links", x.Links(1, 2), api.OK)
	is(t, "Hold", x.Hold(1), api.OK)
	is(t, "Hold", x.Hold(1), api.OK)
	is(t, "Links", x.Links(1, -2), api.OK)
	same(t, "held: Is", x.Is(1), true)
	same(t, "held: links", stat(t, x, 1).Links, 0)
	reads(t, "held", x, 1, 0, 24*64, string(filled(24*64, 1)))
	is(t, "Release", x.Release(1), api.OK)
	same(t, "held once: Is", x.Is(1), true)
	sound(t, "held once", x)
	is(t, "Release", x.Release(1), api.OK)
	gone(t, "released", x, 1, 30)
}

func TestLastHoldThenLastLink(t *testing.T) {
	x := withFile(t, 30)
	put(t, x, 1, 0, string(filled(24*64, 1)))
	is(t, "Hold", x.Hold(1), api.OK)
	is(t, "Links", x.Links(1, 1), api.OK)
	is(t, "Release", x.Release(1), api.OK)
	same(t, "linked: Is", x.Is(1), true)
	is(t, "Release", x.Release(1), api.EINVAL)
	reads(t, "linked", x, 1, 0, 24*64, string(filled(24*64, 1)))
	is(t, "Links", x.Links(1, -1), api.OK)
	gone(t, "unlinked", x, 1, 30)
}

func TestNeitherLinkNorHold(t *testing.T) {
	x := withFile(t, 3)
	put(t, x, 1, 0, "a")
	is(t, "Release", x.Release(1), api.EINVAL)
	is(t, "Links", x.Links(1, -1), api.EINVAL)
	is(t, "Links", x.Links(1, 17), api.EMLINK)
	same(t, "a new one stays", x.Is(1), true)
	is(t, "Hold", x.Hold(1), api.OK)
	is(t, "Links by 0, held", x.Links(1, 0), api.OK)
	same(t, "held: Is", x.Is(1), true)
	is(t, "Release", x.Release(1), api.OK)
	gone(t, "never linked", x, 1, 3)

	alloc(t, x, 1)
	put(t, x, 1, 0, "a")
	is(t, "Links by 0", x.Links(1, 0), api.OK)
	gone(t, "Links left it with none", x, 1, 3)
}

func TestGoneLeavesOthers(t *testing.T) {
	x := withFile(t, 12)
	alloc(t, x, 2)
	for k := range 4 {
		put(t, x, 1, k*2*64, "one")
		put(t, x, 2, k*2*64, "two")
	}
	is(t, "Links", x.Links(1, 0), api.OK)
	for k := range 4 {
		reads(t, "the other one", x, 2, k*2*64, 3, "two")
	}
	owns(t, "the other one", x, 2, 1, 3, 5, 8, 9)
	same(t, "Blocks", x.Blocks(), []int{1, 3, 5, 8, 9})
}

// The chapter's examples.
func TestExamples(t *testing.T) {
	x := made(t, 4, 2)
	alloc(t, x, 1)
	put(t, x, 1, 100, "ab")
	size(t, "ab", x, 1, 102)
	owns(t, "ab", x, 1, 0)
	reads(t, "ab", x, 1, 98, 10, "\x00\x00ab")
	put(t, x, 1, 384, "x")
	owns(t, "place 6", x, 1, 0, 1, 2)
	noWrite(t, "place 22", x, 1, 1408, []byte("x"), api.ENOSPC)
	room(t, "place 22", x, 4, 1, 2, 1)
	is(t, "Truncate", x.Truncate(1, 101), api.OK)
	size(t, "cut", x, 1, 101)
	owns(t, "cut", x, 1, 0)
	reads(t, "cut", x, 1, 100, 5, "a")
	is(t, "Truncate", x.Truncate(1, 17793), api.EFBIG)
	noWrite(t, "MaxFile", x, 1, 17792, []byte("x"), api.EFBIG)
	is(t, "Links", x.Links(1, 17), api.EMLINK)
	is(t, "Links", x.Links(1, 1), api.OK)
	is(t, "Links", x.Links(1, -1), api.OK)
	same(t, "Is", x.Is(1), false)
}
