package blocks_test

import (
	"bytes"
	"math"
	"slices"
	"testing"

	"tinsel/api"
	"tinsel/blocks"
)

// The calls, with the signatures that the chapter lists.
var (
	_ func(int) (*blocks.Store, api.Errno)            = blocks.New
	_ func(*blocks.Store) int                         = (*blocks.Store).Total
	_ func(*blocks.Store) int                         = (*blocks.Store).Left
	_ func(*blocks.Store, int) bool                   = (*blocks.Store).Is
	_ func(*blocks.Store) []int                       = (*blocks.Store).Used
	_ func(*blocks.Store) (int, api.Errno)            = (*blocks.Store).Alloc
	_ func(*blocks.Store, int) api.Errno              = (*blocks.Store).Free
	_ func(*blocks.Store, int) ([]byte, api.Errno)    = (*blocks.Store).Read
	_ func(*blocks.Store, int, int, []byte) api.Errno = (*blocks.Store).Write
	_ func(*blocks.Store) *blocks.Store               = (*blocks.Store).Copy
)

// made: a store of n blocks, the first used of which are in use.
func made(t *testing.T, n, used int) *blocks.Store {
	t.Helper()
	s, e := blocks.New(n)
	if e != api.OK || s == nil {
		t.Fatalf("New(%d): %v, %v", n, s, e)
	}
	for i := range used {
		if got, e := s.Alloc(); got != i || e != api.OK {
			t.Fatalf("New(%d), Alloc: %d, %v, want %d", n, got, e, i)
		}
	}
	return s
}

// upTo: 0 to n - 1.
func upTo(n int) []int {
	l := make([]int, n)
	for i := range n {
		l[i] = i
	}
	return l
}

// holds: are just the blocks of used in use, of total?
func holds(t *testing.T, what string, s *blocks.Store, total int, used []int) {
	t.Helper()
	if got := s.Total(); got != total {
		t.Errorf("%s: Total %d, want %d", what, got, total)
	}
	if got := s.Left(); got != total-len(used) {
		t.Errorf("%s: Left %d, want %d", what, got, total-len(used))
	}
	if got := s.Used(); !slices.Equal(got, used) {
		t.Errorf("%s: Used %v, want %v", what, got, used)
	}
	for i := -2; i < total+70; i++ {
		if got, want := s.Is(i), slices.Contains(used, i); got != want {
			t.Errorf("%s: Is(%d) %v, want %v", what, i, got, want)
		}
	}
}

// reads: has block i these bytes, and noughts behind them?
func reads(t *testing.T, what string, s *blocks.Store, i int, want string) {
	t.Helper()
	whole := make([]byte, api.Block)
	copy(whole, want)
	got, e := s.Read(i)
	if e != api.OK || !bytes.Equal(got, whole) {
		t.Errorf("%s: Read(%d) %q, %v, want %q", what, i, got, e, whole)
	}
}

func is(t *testing.T, what string, got, want api.Errno) {
	t.Helper()
	if got != want {
		t.Errorf("%s: %d (%v), want %d (%v)", what, int(got), got, int(want), want)
	}
}

// P1.1

func TestNew(t *testing.T) {
	for _, n := range []int{1, 2, 63, 64, 65, 127, 128, 129, 1000, 4095, api.MaxStore} {
		s, e := blocks.New(n)
		if e != api.OK || s == nil {
			t.Fatalf("New(%d): %v, %v", n, s, e)
		}
		holds(t, "new", s, n, nil)
	}
}

func TestNewRefuses(t *testing.T) {
	for _, n := range []int{0, -1, -64, -4096, api.MaxStore + 1, 65536, math.MaxInt32, math.MinInt32, math.MaxInt, math.MinInt} {
		s, e := blocks.New(n)
		if s != nil || e != api.EINVAL {
			t.Errorf("New(%d): %v, %v, want nil, EINVAL", n, s, e)
		}
	}
}

func TestStoresAreApart(t *testing.T) {
	a, b := made(t, 3, 2), made(t, 3, 0)
	is(t, "Write", a.Write(0, 0, []byte("a")), api.OK)
	holds(t, "the other one", b, 3, nil)
	if i, e := b.Alloc(); i != 0 || e != api.OK {
		t.Errorf("Alloc: %d, %v", i, e)
	}
	reads(t, "the other one", b, 0, "")
	reads(t, "the one", a, 0, "a")
}

func TestIsAndUsed(t *testing.T) {
	s := made(t, 200, 200)
	holds(t, "all", s, 200, upTo(200))
	var want []int
	for i := range 200 {
		if i%3 == 0 || i == 63 || i == 64 || i == 127 || i == 128 || i == 199 {
			want = append(want, i)
		} else {
			is(t, "Free", s.Free(i), api.OK)
		}
	}
	holds(t, "some", s, 200, want)
}

// P1.2

func TestAllocTakesAllThenNone(t *testing.T) {
	for _, n := range []int{1, 2, 63, 64, 65, 100, api.MaxStore} {
		s := made(t, n, n)
		for range 2 {
			if i, e := s.Alloc(); i != 0 || e != api.ENOSPC {
				t.Errorf("New(%d), all in use: Alloc %d, %v, want 0, ENOSPC", n, i, e)
			}
		}
		holds(t, "full", s, n, upTo(n))
	}
}

func TestAllocTakesTheLowest(t *testing.T) {
	s := made(t, 130, 130)
	for _, i := range []int{129, 64, 3, 63, 0} {
		is(t, "Free", s.Free(i), api.OK)
	}
	for _, want := range []int{0, 3, 63, 64, 129} {
		if i, e := s.Alloc(); i != want || e != api.OK {
			t.Errorf("Alloc: %d, %v, want %d", i, e, want)
		}
	}
	if _, e := s.Alloc(); e != api.ENOSPC {
		t.Errorf("Alloc: %v, want ENOSPC", e)
	}
}

func TestAllocLeavesOthers(t *testing.T) {
	s := made(t, 3, 3)
	is(t, "Write", s.Write(0, 0, []byte("first")), api.OK)
	is(t, "Write", s.Write(2, 0, []byte("last")), api.OK)
	is(t, "Free", s.Free(1), api.OK)
	s.Alloc()
	reads(t, "first", s, 0, "first")
	reads(t, "between", s, 1, "")
	reads(t, "last", s, 2, "last")
}

func TestAllocIsEmpty(t *testing.T) {
	full := bytes.Repeat([]byte{0xff}, api.Block)
	s := made(t, 2, 2)
	is(t, "Write", s.Write(0, 0, full), api.OK)
	is(t, "Write", s.Write(1, 0, full), api.OK)
	is(t, "Free", s.Free(1), api.OK)
	is(t, "Free", s.Free(0), api.OK)
	for want := range 2 {
		if i, e := s.Alloc(); i != want || e != api.OK {
			t.Errorf("Alloc: %d, %v, want %d", i, e, want)
		}
		reads(t, "taken again", s, want, "")
	}
}

// bad: numbers that are no block in use in a store of n blocks of which the first used are.
func bad(n, used int) []int {
	l := []int{-1, -2, -64, -65, n, n + 1, n + 64, api.MaxStore, api.MaxStore + 1,
		math.MaxInt32, math.MinInt32, math.MaxInt, math.MaxInt - 63, math.MinInt, math.MinInt + 63}
	for i := used; i < n; i++ {
		l = append(l, i)
	}
	return l
}

func TestFree(t *testing.T) {
	s := made(t, 4, 4)
	is(t, "the first", s.Free(0), api.OK)
	is(t, "the last", s.Free(3), api.OK)
	holds(t, "two freed", s, 4, []int{1, 2})
	is(t, "twice", s.Free(0), api.EINVAL)
	is(t, "twice", s.Free(3), api.EINVAL)
	holds(t, "two freed, still", s, 4, []int{1, 2})
}

func TestFreeRefuses(t *testing.T) {
	for _, n := range []int{3, 64, 70} {
		s := made(t, n, 2)
		is(t, "Write", s.Write(1, 0, []byte("one")), api.OK)
		for _, i := range bad(n, 2) {
			if e := s.Free(i); e != api.EINVAL {
				t.Errorf("New(%d): Free(%d) %v, want EINVAL", n, i, e)
			}
		}
		holds(t, "refused", s, n, []int{0, 1})
		reads(t, "refused", s, 1, "one")
	}
}

// P1.3

func TestReadRefuses(t *testing.T) {
	for _, n := range []int{3, 64, 70} {
		s := made(t, n, 2)
		for _, i := range bad(n, 2) {
			if b, e := s.Read(i); len(b) != 0 || e != api.EINVAL {
				t.Errorf("New(%d): Read(%d) %q, %v, want EINVAL", n, i, b, e)
			}
		}
	}
	s := made(t, 1, 1)
	is(t, "Free", s.Free(0), api.OK)
	if b, e := s.Read(0); len(b) != 0 || e != api.EINVAL {
		t.Errorf("freed: Read %q, %v, want EINVAL", b, e)
	}
}

func TestWrite(t *testing.T) {
	s := made(t, 2, 2)
	is(t, "the first bytes", s.Write(0, 0, []byte("abc")), api.OK)
	reads(t, "the first bytes", s, 0, "abc")
	is(t, "over them", s.Write(0, 1, []byte("XYZ")), api.OK)
	reads(t, "over them", s, 0, "aXYZ")
	is(t, "the last byte", s.Write(1, api.Block-1, []byte("z")), api.OK)
	is(t, "to the end", s.Write(1, api.Block-3, []byte("xy")), api.OK)
	b, e := s.Read(1)
	want := append(make([]byte, api.Block-3), "xyz"...)
	if e != api.OK || !bytes.Equal(b, want) {
		t.Errorf("the last bytes: %q, %v, want %q", b, e, want)
	}
	reads(t, "the block ahead", s, 0, "aXYZ")
}

func TestWriteWholeBlock(t *testing.T) {
	s := made(t, 3, 3)
	whole := make([]byte, api.Block)
	for i := range whole {
		whole[i] = byte(255 - i)
	}
	is(t, "Write", s.Write(1, 0, whole), api.OK)
	reads(t, "whole", s, 1, string(whole))
	reads(t, "ahead", s, 0, "")
	reads(t, "behind", s, 2, "")
}

func TestWriteEveryByte(t *testing.T) {
	s := made(t, api.MaxStore, api.MaxStore)
	for _, i := range []int{0, 1, 63, 64, 4094, api.MaxStore - 1} {
		want := make([]byte, api.Block)
		for at := range api.Block {
			want[at] = byte(i + 3*at + 1)
			is(t, "Write", s.Write(i, at, want[at:at+1]), api.OK)
			reads(t, "byte by byte", s, i, string(want[:at+1]))
		}
	}
}

func TestWriteEmpty(t *testing.T) {
	s := made(t, 2, 1)
	is(t, "Write", s.Write(0, 0, []byte("abc")), api.OK)
	for _, at := range []int{0, 1, api.Block - 1, api.Block} {
		is(t, "nil", s.Write(0, at, nil), api.OK)
		is(t, "empty", s.Write(0, at, []byte{}), api.OK)
	}
	for _, at := range []int{-1, math.MinInt, api.Block + 1, math.MaxInt} {
		is(t, "nil, past an end", s.Write(0, at, nil), api.EINVAL)
		is(t, "empty, past an end", s.Write(0, at, []byte{}), api.EINVAL)
	}
	is(t, "nil, not in use", s.Write(1, 0, nil), api.EINVAL)
	is(t, "nil, none", s.Write(2, 0, nil), api.EINVAL)
	reads(t, "empty writes", s, 0, "abc")
	holds(t, "empty writes", s, 2, []int{0})
}

func TestWriteBeyond(t *testing.T) {
	s := made(t, 3, 3)
	for i := range 3 {
		is(t, "Write", s.Write(i, 0, []byte("abc")), api.OK)
	}
	two, more := []byte("xy"), make([]byte, api.Block+1)
	is(t, "a byte beyond", s.Write(1, api.Block-1, two), api.EINVAL)
	is(t, "at the end", s.Write(1, api.Block, two[:1]), api.EINVAL)
	is(t, "all beyond", s.Write(1, api.Block+1, two), api.EINVAL)
	is(t, "too many", s.Write(1, 0, more), api.EINVAL)
	is(t, "too many by one", s.Write(1, 1, more[:api.Block]), api.EINVAL)
	is(t, "far too many", s.Write(1, 0, make([]byte, 2*api.MaxStore*api.Block)), api.EINVAL)
	is(t, "below 0", s.Write(1, -1, two), api.EINVAL)
	is(t, "all below 0", s.Write(1, -2, two), api.EINVAL)
	is(t, "below 0, too many", s.Write(1, -1, more), api.EINVAL)
	for _, at := range []int{math.MaxInt, math.MaxInt - 1, math.MinInt, math.MinInt + 1, math.MaxInt32, math.MinInt32} {
		is(t, "an end of int", s.Write(1, at, two), api.EINVAL)
		is(t, "an end of int, too many", s.Write(1, at, more), api.EINVAL)
	}
	for i := range 3 {
		reads(t, "refused", s, i, "abc")
	}
}

func TestWriteRefusesBlocks(t *testing.T) {
	for _, n := range []int{3, 64, 70} {
		s := made(t, n, 2)
		for _, i := range bad(n, 2) {
			if e := s.Write(i, 0, []byte("x")); e != api.EINVAL {
				t.Errorf("New(%d): Write(%d) %v, want EINVAL", n, i, e)
			}
		}
		holds(t, "refused", s, n, []int{0, 1})
		for i := 2; i < n; i++ {
			s.Alloc()
			reads(t, "taken behind a refused write", s, i, "")
		}
	}
}

func TestCopy(t *testing.T) {
	s := made(t, 70, 70)
	is(t, "Free", s.Free(65), api.OK)
	is(t, "Write", s.Write(66, 0, []byte("ab")), api.OK)
	used := s.Used()
	c := s.Copy()
	if c == nil || c == s {
		t.Fatalf("Copy: %p of %p", c, s)
	}
	holds(t, "the copy", c, 70, used)
	reads(t, "the copy", c, 66, "ab")

	is(t, "Write", s.Write(66, 0, []byte("cd")), api.OK)
	is(t, "Free", s.Free(0), api.OK)
	holds(t, "the copy, the first changed", c, 70, used)
	reads(t, "the copy, the first changed", c, 66, "ab")

	is(t, "Write", c.Write(66, 0, []byte("ef")), api.OK)
	if i, e := c.Alloc(); i != 65 || e != api.OK {
		t.Errorf("the copy's Alloc: %d, %v, want 65", i, e)
	}
	is(t, "Write", c.Write(65, 0, []byte("gh")), api.OK)
	is(t, "Free", c.Free(69), api.OK)
	holds(t, "the first, the copy changed", s, 70, append(upTo(65)[1:], 66, 67, 68, 69))
	reads(t, "the first, the copy changed", s, 66, "cd")
	reads(t, "the first, the copy changed", s, 69, "")

	is(t, "Write", s.Copy().Write(66, 0, []byte("ij")), api.OK)
	reads(t, "the first, a second copy changed", s, 66, "cd")
	reads(t, "the copy, a second copy changed", c, 66, "ef")
}

func TestCopyAtTheEnds(t *testing.T) {
	for _, n := range []int{1, api.MaxStore} {
		holds(t, "empty", made(t, n, 0).Copy(), n, nil)
		c := made(t, n, n).Copy()
		holds(t, "full", c, n, upTo(n))
		if i, e := c.Alloc(); i != 0 || e != api.ENOSPC {
			t.Errorf("full copy: Alloc %d, %v, want 0, ENOSPC", i, e)
		}
	}
}

// The chapter's example.
func TestExample(t *testing.T) {
	s := made(t, 2, 2)
	if _, e := s.Alloc(); e != api.ENOSPC {
		t.Errorf("Alloc: %v, want ENOSPC", e)
	}
	is(t, "Free", s.Free(0), api.OK)
	if i, e := s.Alloc(); i != 0 || e != api.OK {
		t.Errorf("Alloc: %d, %v, want 0", i, e)
	}
	is(t, "Write", s.Write(0, 63, []byte("ab")), api.EINVAL)
}
