package inode_test

import (
	"math"
	"slices"
	"testing"

	"tinsel/api"
	"tinsel/inode"
)

// ends: numbers of which none is an inode in use in these tests.
var ends = []int{0, -1, -2, 7, 8, 9, 4096, 4097, math.MaxInt32, math.MinInt32, math.MaxInt, math.MaxInt - 1, math.MinInt, math.MinInt + 1}

// refused: each call that takes an inode's number answers want, whatever else it is given.
func refused(t *testing.T, what string, x *inode.Table, ino int, want api.Errno) {
	t.Helper()
	for _, n := range []int{0, 1, -1, -2, 64, api.LinkMax + 1, api.MaxFile, api.MaxFile + 1, math.MaxInt, math.MinInt} {
		for _, b := range [][]byte{nil, {}, []byte("x")} {
			noWrite(t, what, x, ino, n, b, want)
		}
		for _, m := range []int{0, 1, -1, math.MaxInt, math.MinInt} {
			if b, e := x.Read(ino, n, m); len(b) != 0 || e != want {
				t.Errorf("%s: Read(%d, %d, %d) %q, %v, want %v", what, ino, n, m, b, e, want)
			}
			is(t, what+": SetOwner", x.SetOwner(ino, n, m), want)
			is(t, what+": SetTimes", x.SetTimes(ino, int64(n), int64(m)), want)
		}
		is(t, what+": Truncate", x.Truncate(ino, n), want)
		is(t, what+": SetMode", x.SetMode(ino, api.Mode(n)), want)
		is(t, what+": Links", x.Links(ino, n), want)
	}
	if s, e := x.Stat(ino); s != (api.Stat{}) || e != want {
		t.Errorf("%s: Stat(%d) %v, %v, want %v", what, ino, s, e, want)
	}
	if l, e := x.Owned(ino); len(l) != 0 || e != want {
		t.Errorf("%s: Owned(%d) %v, %v, want %v", what, ino, l, e, want)
	}
	is(t, what+": Hold", x.Hold(ino), want)
	is(t, what+": Release", x.Release(ino), want)
	same(t, what+": Is", x.Is(ino), false)
}

// R1, R2, R5: a table that no call made answers zero values and EFAULT, ahead of all else.
func TestNoTable(t *testing.T) {
	for _, x := range []*inode.Table{nil, {}, new(inode.Table)} {
		for _, ino := range append([]int{1, 2}, ends...) {
			refused(t, "no table", x, ino, api.EFAULT)
		}
		for _, mode := range []api.Mode{plain, 0, -1, math.MaxInt, math.MinInt} {
			for _, id := range []int{0, -1, math.MinInt, math.MaxInt} {
				if ino, e := x.Alloc(mode, id, id); ino != 0 || e != api.EFAULT {
					t.Errorf("Alloc: %d, %v, want 0, EFAULT", ino, e)
				}
			}
		}
		x.Clock(7)
		same(t, "Now", x.Now(), 0)
		room(t, "no table", x, 0, 0, 0, 0)
		same(t, "Used", x.Used(), []int{})
		same(t, "Blocks", x.Blocks(), []int{})
		if c := x.Copy(); c != nil {
			t.Errorf("Copy: %v, want nil", c)
		}
	}
}

// R1, R2, R7: a number that is not in use is ENOENT, ahead of what else is wrong, and nothing changes.
func TestNoInode(t *testing.T) {
	x := made(t, 9, 8)
	for i := 1; i <= 8; i++ {
		alloc(t, x, i)
	}
	put(t, x, 3, 0, "abc")
	is(t, "Links", x.Links(7, 0), api.OK)
	is(t, "Links", x.Links(8, 0), api.OK)
	x.Clock(4)
	was := picture(x)
	for _, ino := range ends {
		refused(t, "no inode", x, ino, api.ENOENT)
	}
	same(t, "refused", picture(x), was)
}

// R2: of two things that are wrong the one that the chapter names first.
func TestTwoThingsWrong(t *testing.T) {
	x := made(t, 1, 1)
	alloc(t, x, 1)
	put(t, x, 1, 0, "a")
	was := picture(x)
	if ino, e := x.Alloc(0, 0, 0); ino != 0 || e != api.EINVAL { // a bad mode, and none left
		t.Errorf("Alloc: %d, %v, want 0, EINVAL", ino, e)
	}
	noWrite(t, "EFBIG ahead of ENOSPC", x, 1, api.MaxFile, []byte("x"), api.EFBIG)
	noWrite(t, "EINVAL ahead of ENOSPC", x, 1, -1, []byte("x"), api.EINVAL)
	wrote(t, "nothing, ahead of EFBIG", x, 1, api.MaxFile, 0, nil)
	noWrite(t, "ENOSPC", x, 1, api.MaxFile-1, []byte("xyz"), api.ENOSPC)
	if b, e := x.Read(1, -1, -1); len(b) != 0 || e != api.EINVAL {
		t.Errorf("Read: %q, %v", b, e)
	}
	same(t, "refused", picture(x), was)
}

// R3: what is handed in is not changed, nor the room behind its end, nor kept.
func TestWriteKeepsNothing(t *testing.T) {
	for _, off := range []int{0, 60, 64, 6 * 64, 22*64 - 3} {
		x := withFile(t, 9)
		all := filled(200, 0)
		b := all[10:140]
		text := string(b)
		put(t, x, 1, off, text)
		wrote(t, "a part", x, 1, off, 130, b)
		if string(all) != string(filled(200, 0)) {
			t.Errorf("what was handed in: %q", all)
		}
		clear(all)
		reads(t, "the list changed", x, 1, off, 999, text)
		put(t, x, 1, off, "XYZ")
		if !slices.Equal(all, make([]byte, 200)) {
			t.Errorf("what was handed in: %q", all)
		}
	}
}

func TestShortWriteChangesNoList(t *testing.T) {
	x := withFile(t, 1)
	b := filled(100, 0)
	wrote(t, "short", x, 1, 0, 64, b)
	noWrite(t, "none", x, 1, 64, b, api.ENOSPC)
	if string(b) != string(filled(100, 0)) {
		t.Errorf("what was handed in: %q", b)
	}
}

// spoil: all that belongs to a list, its spare room too.
func spoil[T any](l []T, with T) {
	l = l[:cap(l)]
	for i := range l {
		l[i] = with
	}
}

// R3: answers are new memory, their spare room too.
func TestAnswersAreNew(t *testing.T) {
	x := withFile(t, 30)
	alloc(t, x, 2)
	put(t, x, 1, 0, string(filled(24*64, 2)))
	put(t, x, 2, 0, "other")
	c := x.Copy()
	was := picture(x)
	whole, _ := x.Read(1, 0, api.MaxFile)
	part, _ := x.Read(1, 64, 64)
	kept, _ := x.Read(1, 64, 64)
	owned, _ := x.Owned(1)
	keptOwned, _ := x.Owned(1)
	used, blocks := x.Used(), x.Blocks()
	keptUsed, keptBlocks := x.Used(), x.Blocks()
	spoil(whole, 0xee)
	spoil(part, 0xee)
	spoil(owned, -7)
	spoil(used, -7)
	spoil(blocks, -7)
	same(t, "answers changed", picture(x), was)
	same(t, "answers changed: the copy", picture(c), was)
	same(t, "another Read", kept, filled(24*64, 2)[64:128])
	same(t, "another Owned", keptOwned, upTo(0, 27)[:len(keptOwned)])

	put(t, x, 1, 64, "changed")
	is(t, "Links", x.Links(1, 0), api.OK)
	same(t, "Read, the file changed", kept, filled(24*64, 2)[64:128])
	same(t, "Owned, the file changed", keptOwned, upTo(0, 27)[:len(keptOwned)])
	same(t, "Used, the table changed", keptUsed, []int{1, 2})
	same(t, "Blocks, the table changed", keptBlocks, upTo(0, 28))
}

// R4: the same calls, the same answers.
func TestOneOutcome(t *testing.T) {
	run := func() string {
		x, d := made(t, 50, 6), dice(99)
		m := newModel(50, 6)
		for range 400 {
			step(t, &d, x, m)
		}
		return picture(x)
	}
	same(t, "again", run(), run())
}
