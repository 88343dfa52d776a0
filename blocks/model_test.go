package blocks_test

import (
	"bytes"
	"slices"
	"testing"

	"tinsel/api"
	"tinsel/blocks"
)

// model is a store told another way: a block is in use if it is a key.
type model struct {
	total int
	held  map[int][]byte
}

func (m *model) alloc() (int, api.Errno) {
	for i := range m.total {
		if m.held[i] == nil {
			m.held[i] = make([]byte, api.Block)
			return i, api.OK
		}
	}
	return 0, api.ENOSPC
}

func (m *model) free(i int) api.Errno {
	if m.held[i] == nil {
		return api.EINVAL
	}
	delete(m.held, i)
	return api.OK
}

func (m *model) write(i, at int, b []byte) api.Errno {
	if m.held[i] == nil || at < 0 || at+len(b) > api.Block {
		return api.EINVAL
	}
	copy(m.held[i][at:], b)
	return api.OK
}

func (m *model) copied() *model {
	c := &model{total: m.total, held: map[int][]byte{}}
	for i, b := range m.held {
		c.held[i] = bytes.Clone(b)
	}
	return c
}

func (m *model) used() []int {
	var l []int
	for i := range m.held {
		l = append(l, i)
	}
	slices.Sort(l)
	return l
}

// alike: P1.4, and all that can be seen.
func alike(t *testing.T, s *blocks.Store, m *model) {
	t.Helper()
	used := s.Used()
	if s.Left()+len(used) != s.Total() {
		t.Fatalf("Left %d and %d in use do not make Total %d", s.Left(), len(used), s.Total())
	}
	if s.Total() != m.total || !slices.Equal(used, m.used()) {
		t.Fatalf("Total %d, Used %v, want %d, %v", s.Total(), used, m.total, m.used())
	}
	for i := range m.total {
		if s.Is(i) != (m.held[i] != nil) {
			t.Fatalf("Is(%d): %v", i, s.Is(i))
		}
		b, e := s.Read(i)
		if want := m.held[i]; !bytes.Equal(b, want) || (e == api.OK) != (want != nil) {
			t.Fatalf("Read(%d): %q, %v, want %q", i, b, e, want)
		}
	}
}

// dice: the same numbers each time.
type dice uint64

func (d *dice) upTo(n int) int {
	*d = *d*6364136223846793005 + 1442695040888963407
	return int(uint64(*d)>>33) % n
}

// step: one call on both, with the same answer.
func step(t *testing.T, d *dice, s *blocks.Store, m *model) {
	t.Helper()
	i := d.upTo(m.total+4) - 2
	switch d.upTo(5) {
	case 0, 1:
		got, e := s.Alloc()
		if want, f := m.alloc(); got != want || e != f {
			t.Fatalf("Alloc: %d, %v, want %d, %v", got, e, want, f)
		}
	case 2:
		if e, f := s.Free(i), m.free(i); e != f {
			t.Fatalf("Free(%d): %v, want %v", i, e, f)
		}
	default:
		b := bytes.Repeat([]byte{byte(d.upTo(255) + 1)}, d.upTo(api.Block+2))
		at := d.upTo(api.Block+4) - 2
		if e, f := s.Write(i, at, b), m.write(i, at, b); e != f {
			t.Fatalf("Write(%d, %d, %d bytes): %v, want %v", i, at, len(b), e, f)
		}
	}
}

// P1.1 to P1.4, R4: whatever is called, a store, its copy and the model of each are alike.
func TestModel(t *testing.T) {
	for _, n := range []int{1, 2, 5, 64, 65, 130} {
		d := dice(n)
		s, m := made(t, n, 0), &model{total: n, held: map[int][]byte{}}
		old, oldModel := s.Copy(), m.copied()
		for k := range 1500 {
			step(t, &d, s, m)
			if k%10 == 0 {
				alike(t, s, m)
			}
			if k%100 == 0 {
				alike(t, old, oldModel)
				old, oldModel = s.Copy(), m.copied()
			}
			if k%3 == 0 {
				step(t, &d, old, oldModel)
			}
		}
		alike(t, s, m)
		alike(t, old, oldModel)
	}
}
