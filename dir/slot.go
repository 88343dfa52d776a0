package dir

import (
	"bytes"
	"iter"

	"tinsel/api"
)

// A slot's bytes, and where in them the name begins: behind the number.
const (
	slotSize = 32
	nameAt   = 4
)

// slot is a number, the lowest byte first, and a name with bytes 0 behind it.
type slot [slotSize]byte

// newSlot: one with a name and a number.
func newSlot(name string, ino int) slot {
	var s slot
	copy(s[nameAt:], name)
	return s.with(ino)
}

// with: the same name, with another number.
func (s slot) with(ino int) slot {
	for i := range nameAt {
		s[i] = byte(ino >> (8 * i))
	}
	return s
}

// ino: its number.
func (s slot) ino() int {
	n := 0
	for i := range nameAt {
		n |= int(s[i]) << (8 * i)
	}
	return n
}

// free: a name may stand there still, but it is none without a number.
func (s slot) free() bool { return s.ino() == 0 }

// name: what stands ahead of the first byte 0, or all of it.
func (s slot) name() string {
	b, _, _ := bytes.Cut(s[nameAt:], []byte{0})
	return string(b)
}

// dots: does it lead to the directory itself, or to its parent?
func (s slot) dots() bool { return s.name() == "." || s.name() == ".." }

// content is a directory's bytes.
type content []byte

// count: how many whole slots there are.
func (c content) count() int { return len(c) / slotSize }

// all: the whole slots, free or not, with their numbers.
func (c content) all() iter.Seq2[int, slot] {
	return func(yield func(int, slot) bool) {
		for k := range c.count() {
			var s slot
			copy(s[:], c[k*slotSize:])
			if !yield(k, s) {
				return
			}
		}
	}
}

// taken: the slots that are not free.
func (c content) taken() iter.Seq2[int, slot] {
	return func(yield func(int, slot) bool) {
		for k, s := range c.all() {
			if !s.free() && !yield(k, s) {
				return
			}
		}
	}
}

// find: the first slot that has the name.
func (c content) find(name string) (int, slot, api.Errno) {
	for k, s := range c.taken() {
		if s.name() == name {
			return k, s, api.OK
		}
	}
	return 0, slot{}, api.ENOENT
}

// room: the first free slot, or the one behind the last.
func (c content) room() int {
	for k, s := range c.all() {
		if s.free() {
			return k
		}
	}
	return c.count()
}
