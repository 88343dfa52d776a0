package blocks_test

import (
	"bytes"
	"math"
	"testing"

	"tinsel/api"
	"tinsel/blocks"
)

// R1, R2, R5: a store that no call made answers zero values and EFAULT, ahead of all else.
func TestNoStore(t *testing.T) {
	zero := &blocks.Store{}
	for _, s := range []*blocks.Store{nil, zero} {
		for _, i := range []int{0, 1, -1, 63, 64, api.MaxStore, math.MaxInt, math.MinInt} {
			if s.Is(i) {
				t.Errorf("%v: Is(%d)", s, i)
			}
			is(t, "Free", s.Free(i), api.EFAULT)
			if b, e := s.Read(i); len(b) != 0 || e != api.EFAULT {
				t.Errorf("%v: Read(%d) %q, %v, want EFAULT", s, i, b, e)
			}
			is(t, "Write", s.Write(i, 0, []byte("a")), api.EFAULT)
			is(t, "Write", s.Write(0, i, []byte("a")), api.EFAULT)
			is(t, "Write of nothing", s.Write(i, i, nil), api.EFAULT)
			is(t, "Write of too much", s.Write(i, i, make([]byte, api.Block+1)), api.EFAULT)
		}
		if i, e := s.Alloc(); i != 0 || e != api.EFAULT {
			t.Errorf("%v: Alloc %d, %v, want 0, EFAULT", s, i, e)
		}
		holds(t, "no store", s, 0, nil)
		if c := s.Copy(); c != nil {
			t.Errorf("Copy: %v, want nil", c)
		}
	}
}

// R3: what is handed in is not changed, nor the room behind its end, nor kept.
func TestWriteKeepsNothing(t *testing.T) {
	s := made(t, 1, 1)
	room := []byte("abcdef")
	b := room[1:3]
	is(t, "Write", s.Write(0, 0, b), api.OK)
	if string(room) != "abcdef" {
		t.Errorf("what was handed in: %q", room)
	}
	reads(t, "of a list with room behind it", s, 0, "bc")
	b[0] = 'x'
	reads(t, "the list changed", s, 0, "bc")
	is(t, "Write", s.Write(0, 2, room), api.OK)
	is(t, "Write refused", s.Write(0, 63, room), api.EINVAL)
	if string(room) != "axcdef" {
		t.Errorf("what was handed in: %q", room)
	}

	whole := bytes.Repeat([]byte("w"), api.Block)
	is(t, "Write", s.Write(0, 0, whole), api.OK)
	clear(whole)
	reads(t, "the whole block's list changed", s, 0, string(bytes.Repeat([]byte("w"), api.Block)))
	is(t, "Write", s.Write(0, 0, []byte("v")), api.OK)
	if !bytes.Equal(whole, make([]byte, api.Block)) {
		t.Errorf("what was handed in: %q", whole)
	}
}

// R3: what Read answers is new memory, its spare room too.
func TestReadIsNew(t *testing.T) {
	s := made(t, 3, 3)
	for i := range 3 {
		is(t, "Write", s.Write(i, 0, []byte("abc")), api.OK)
	}
	c := s.Copy()
	one, _ := s.Read(1)
	two, _ := s.Read(1)
	if len(one) != api.Block {
		t.Fatalf("Read: %d bytes, want %d", len(one), api.Block)
	}
	spoil := one[:cap(one)]
	for i := range spoil {
		spoil[i] = 0xee
	}
	for i := range 3 {
		reads(t, "an answer changed", s, i, "abc")
		reads(t, "an answer changed: the copy", c, i, "abc")
	}
	if string(two[:4]) != "abc\x00" {
		t.Errorf("another answer: %q", two)
	}
	is(t, "Write", s.Write(1, 0, []byte("xyz")), api.OK)
	if string(two[:4]) != "abc\x00" {
		t.Errorf("an answer, the block changed: %q", two)
	}
	is(t, "Free", s.Free(1), api.OK)
	if string(two[:4]) != "abc\x00" {
		t.Errorf("an answer, the block freed: %q", two)
	}
}

// R3: so is what Used answers.
func TestUsedIsNew(t *testing.T) {
	s := made(t, 100, 3)
	one, two := s.Used(), s.Used()
	spoil := one[:cap(one)]
	for i := range spoil {
		spoil[i] = -7
	}
	holds(t, "an answer changed", s, 100, []int{0, 1, 2})
	if len(two) != 3 || two[0] != 0 || two[2] != 2 {
		t.Errorf("another answer: %v", two)
	}
	s.Alloc()
	is(t, "Free", s.Free(0), api.OK)
	if len(two) != 3 || two[0] != 0 || two[2] != 2 {
		t.Errorf("an answer, the store changed: %v", two)
	}
}

// R2, R7: what answers an error has changed nothing.
func TestErrorsChangeNothing(t *testing.T) {
	s := made(t, 66, 66)
	is(t, "Free", s.Free(65), api.OK)
	for i := range 65 {
		is(t, "Write", s.Write(i, 0, []byte{byte(i + 1)}), api.OK)
	}
	ends := []int{-1, 65, 66, math.MaxInt, math.MinInt}
	for _, i := range ends {
		is(t, "Free", s.Free(i), api.EINVAL)
		is(t, "Write", s.Write(i, 0, []byte("x")), api.EINVAL)
		is(t, "Write", s.Write(3, i, []byte("x")), api.EINVAL)
		is(t, "Write", s.Write(i, i, nil), api.EINVAL)
		if _, e := s.Read(i); e != api.EINVAL {
			t.Errorf("Read(%d): %v, want EINVAL", i, e)
		}
	}
	holds(t, "refused", s, 66, upTo(65))
	for i := range 65 {
		reads(t, "refused", s, i, string([]byte{byte(i + 1)}))
	}
}
