// Package blocks is layer 1: see shared/doc/01-blocks.md.
package blocks

import (
	"math/bits"
	"slices"

	"tinsel/api"
)

const (
	wordBits = 64
	words    = api.MaxStore / wordBits
)

// block is an array, so that to hand one on is to copy it.
type block [api.Block]byte

// Store is an array of blocks. A block that is not in use is noughts alone,
// so that Alloc hands it out as it lies, and nothing of its past is kept.
type Store struct {
	bitmap [words]uint64
	blocks []block
}

// New: a store of n free blocks.
func New(n int) (*Store, api.Errno) {
	if n < 1 || n > api.MaxStore {
		return nil, api.EINVAL
	}
	return &Store{blocks: make([]block, n)}, api.OK
}

// made: did New or Copy make it? These make no store without blocks.
func (s *Store) made() bool { return s != nil && len(s.blocks) > 0 }

// Total: how many blocks it has.
func (s *Store) Total() int {
	if !s.made() {
		return 0
	}
	return len(s.blocks)
}

// Left: how many are free.
func (s *Store) Left() int {
	if !s.made() {
		return 0
	}
	left := len(s.blocks)
	for w := range words {
		left -= bits.OnesCount64(s.bitmap[w])
	}
	return left
}

// Is: is a block in use?
func (s *Store) Is(i int) bool {
	if !s.made() || i < 0 || i >= len(s.blocks) {
		return false
	}
	w, bit := place(i)
	return s.bitmap[w]&bit != 0
}

// Used: the blocks in use.
func (s *Store) Used() []int {
	if !s.made() {
		return nil
	}
	var used []int
	for i := range len(s.blocks) {
		if s.Is(i) {
			used = append(used, i)
		}
	}
	return used
}

// Alloc: the lowest free block, noughts alone.
func (s *Store) Alloc() (int, api.Errno) {
	if !s.made() {
		return 0, api.EFAULT
	}
	i := s.lowestFree()
	if i >= len(s.blocks) {
		return 0, api.ENOSPC
	}
	w, bit := place(i)
	s.bitmap[w] |= bit
	return i, api.OK
}

// Free: a block is in use no more.
func (s *Store) Free(i int) api.Errno {
	if e := s.fit(i); e != api.OK {
		return e
	}
	w, bit := place(i)
	s.bitmap[w] &^= bit
	s.blocks[i] = block{}
	return api.OK
}

// Read: its bytes.
func (s *Store) Read(i int) ([]byte, api.Errno) {
	if e := s.fit(i); e != api.OK {
		return nil, e
	}
	b := s.blocks[i] // a copy: the caller may do with it what it likes
	return b[:], api.OK
}

// Write: some of its bytes.
func (s *Store) Write(i, at int, b []byte) api.Errno {
	if e := s.fit(i); e != api.OK {
		return e
	}
	// A difference, as the sum of at and b's length might wrap.
	if at < 0 || at > api.Block-len(b) {
		return api.EINVAL
	}
	copy(s.blocks[i][at:], b)
	return api.OK
}

// Copy: another one, as this is.
func (s *Store) Copy() *Store {
	if !s.made() {
		return nil
	}
	return &Store{bitmap: s.bitmap, blocks: slices.Clone(s.blocks)}
}

// fit: may block i be read, written or freed?
func (s *Store) fit(i int) api.Errno {
	if !s.made() {
		return api.EFAULT
	}
	if !s.Is(i) {
		return api.EINVAL
	}
	return api.OK
}

// lowestFree: the place of the lowest bit that is not set; it may lie behind
// the last block, as the bitmap has room for MaxStore of them.
func (s *Store) lowestFree() int {
	for w := range words {
		if free := ^s.bitmap[w]; free != 0 {
			return w*wordBits + bits.TrailingZeros64(free)
		}
	}
	return api.MaxStore
}

// place: block i's word of the bitmap, and its bit there.
func place(i int) (int, uint64) { return i / wordBits, 1 << (i % wordBits) }
