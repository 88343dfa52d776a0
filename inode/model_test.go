package inode_test

import (
	"bytes"
	"maps"
	"slices"
	"testing"

	"tinsel/api"
	"tinsel/inode"
)

// thing is a file told another way: its bytes, and its blocks by the number
// of what they are there for, rising in the order in which Owned tells them.
type thing struct {
	stat   api.Stat
	holds  int
	text   []byte
	blocks map[int]int
}

type model struct {
	blocks, inodes int
	clock          int64
	things         map[int]*thing
}

func newModel(blocks, inodes int) *model {
	return &model{blocks: blocks, inodes: inodes, things: map[int]*thing{}}
}

func (m *model) copied() *model {
	c := *m
	c.things = map[int]*thing{}
	for ino, f := range m.things {
		g := *f
		g.text, g.blocks = bytes.Clone(f.text), maps.Clone(f.blocks)
		c.things[ino] = &g
	}
	return &c
}

// needs: what place k needs, in the order in which it is taken: its block
// alone, or one or two more ahead of it.
func needs(k int) []int {
	switch {
	case k < 6:
		return []int{k * 10}
	case k < 22:
		return []int{59, k * 10}
	}
	first := (k-22)/16*16 + 22
	return []int{218, first*10 - 1, k * 10}
}

func (m *model) used() []int {
	var l []int
	for _, f := range m.things {
		l = slices.AppendSeq(l, maps.Values(f.blocks))
	}
	slices.Sort(l)
	return l
}

func (m *model) free() []int {
	var l []int
	used := m.used()
	for i := range m.blocks {
		if _, found := slices.BinarySearch(used, i); !found {
			l = append(l, i)
		}
	}
	return l
}

// take: what place k needs and has not; false, if there are too few.
func (m *model) take(f *thing, k int) bool {
	var missing []int
	for _, key := range needs(k) {
		if _, ok := f.blocks[key]; !ok {
			missing = append(missing, key)
		}
	}
	free := m.free()
	if len(missing) > len(free) {
		return false
	}
	for i, key := range missing {
		f.blocks[key] = free[i]
	}
	return true
}

func (m *model) write(f *thing, off int, b []byte) (int, api.Errno) {
	switch {
	case off < 0:
		return 0, api.EINVAL
	case len(b) == 0:
		return 0, api.OK
	case off >= api.MaxFile:
		return 0, api.EFBIG
	}
	n := 0
	for n < len(b) && off+n < api.MaxFile {
		if !m.take(f, (off+n)/64) {
			break
		}
		if len(f.text) <= off+n {
			f.text = append(f.text, make([]byte, off+n+1-len(f.text))...)
		}
		f.text[off+n] = b[n]
		n++
	}
	if n == 0 {
		return 0, api.ENOSPC
	}
	f.stat.Mtime, f.stat.Ctime = m.clock, m.clock
	return n, api.OK
}

func (m *model) truncate(f *thing, size int) api.Errno {
	if size < 0 {
		return api.EINVAL
	}
	if size > api.MaxFile {
		return api.EFBIG
	}
	f.text = append(f.text, make([]byte, max(0, size-len(f.text)))...)[:size]
	was := f.blocks
	f.blocks = map[int]int{}
	for k := 0; k*64 < size; k++ {
		if _, ok := was[k*10]; !ok {
			continue
		}
		for _, key := range needs(k) {
			f.blocks[key] = was[key]
		}
	}
	f.stat.Mtime, f.stat.Ctime = m.clock, m.clock
	return api.OK
}

func (m *model) alloc(mode api.Mode, uid, gid int) (int, api.Errno) {
	for ino := 1; ino <= m.inodes; ino++ {
		if m.things[ino] == nil {
			m.things[ino] = &thing{blocks: map[int]int{}, stat: api.Stat{
				Ino: ino, Uid: uid, Gid: gid, Mode: mode, Atime: m.clock, Mtime: m.clock, Ctime: m.clock}}
			return ino, api.OK
		}
	}
	return 0, api.ENOSPC
}

func (m *model) links(f *thing, by int) api.Errno {
	if f.stat.Links+by < 0 {
		return api.EINVAL
	}
	if f.stat.Links+by > api.LinkMax {
		return api.EMLINK
	}
	f.stat.Links += by
	f.stat.Ctime = m.clock
	m.drop(f)
	return api.OK
}

func (m *model) release(f *thing) api.Errno {
	if f.holds == 0 {
		return api.EINVAL
	}
	f.holds--
	m.drop(f)
	return api.OK
}

func (m *model) drop(f *thing) {
	if f.stat.Links == 0 && f.holds == 0 {
		delete(m.things, f.stat.Ino)
	}
}

func (f *thing) owned() []int {
	var l []int
	for _, key := range slices.Sorted(maps.Keys(f.blocks)) {
		l = append(l, f.blocks[key])
	}
	return l
}

func (f *thing) told() api.Stat {
	s := f.stat
	s.Size, s.Blocks = len(f.text), len(f.blocks)
	return s
}

// alike: all that can be seen.
func alike(t *testing.T, x *inode.Table, m *model) {
	t.Helper()
	used := slices.Sorted(maps.Keys(m.things))
	same(t, "Used", x.Used(), used)
	same(t, "Blocks", x.Blocks(), m.used())
	room(t, "alike", x, m.blocks, m.blocks-len(m.used()), m.inodes, m.inodes-len(used))
	same(t, "Now", x.Now(), m.clock)
	for _, ino := range used {
		f := m.things[ino]
		same(t, "Stat", stat(t, x, ino), f.told())
		owns(t, "alike", x, ino, f.owned()...)
		reads(t, "alike", x, ino, 0, api.MaxFile, string(f.text))
		same(t, "holds", holds(x, ino), f.holds)
	}
	sound(t, "alike", x)
	if t.Failed() {
		t.FailNow()
	}
}

// dice: the same numbers each time.
type dice uint64

func (d *dice) upTo(n int) int {
	*d = *d*6364136223846793005 + 1442695040888963407
	return int(uint64(*d)>>33) % n
}

// offset: near the beginning, near an edge, or anywhere, also where none may be.
func (d *dice) offset() int {
	switch d.upTo(4) {
	case 0:
		return d.upTo(300)
	case 1:
		return edges[d.upTo(len(edges))]*64 + d.upTo(5) - 2
	case 2:
		return d.upTo(3000)
	}
	return d.upTo(api.MaxFile+200) - 3
}

func (d *dice) kind() api.Mode {
	return []api.Mode{api.TypeReg, api.TypeDir, api.TypeLink}[d.upTo(3)] | api.Mode(d.upTo(0o10000))
}

// step: one call on both, with the same answer.
func step(t *testing.T, d *dice, x *inode.Table, m *model) {
	t.Helper()
	if d.upTo(3) == 0 {
		m.clock++
		x.Clock(m.clock)
	}
	if d.upTo(8) == 0 {
		mode, uid, gid := d.kind(), d.upTo(9), d.upTo(9)
		got, e := x.Alloc(mode, uid, gid)
		want, f := m.alloc(mode, uid, gid)
		same(t, "Alloc", []any{got, e}, []any{want, f})
		return
	}
	ino := d.upTo(m.inodes+3) - 1
	f := m.things[ino]
	if f == nil {
		same(t, "Is", x.Is(ino), false)
		is(t, "Hold of none", x.Hold(ino), api.ENOENT)
		return
	}
	switch d.upTo(12) {
	case 0:
		f.holds++
		is(t, "Hold", x.Hold(ino), api.OK)
	case 1:
		is(t, "Release", x.Release(ino), m.release(f))
	case 2:
		by := d.upTo(24) - 12
		is(t, "Links", x.Links(ino, by), m.links(f, by))
	case 3, 4:
		size := d.offset()
		is(t, "Truncate", x.Truncate(ino, size), m.truncate(f, size))
	case 5:
		stepAttributes(t, d, x, m, f)
	default:
		b := filled(d.upTo(400), d.upTo(255))
		off := d.offset()
		got, e := x.Write(ino, off, b)
		want, g := m.write(f, off, b)
		same(t, "Write", []any{got, e}, []any{want, g})
	}
}

func stepAttributes(t *testing.T, d *dice, x *inode.Table, m *model, f *thing) {
	t.Helper()
	ino := f.stat.Ino
	f.stat.Ctime = m.clock
	switch d.upTo(3) {
	case 0:
		mode := d.kind()
		f.stat.Mode = f.stat.Mode&api.TypeMask + mode&api.PermMask
		is(t, "SetMode", x.SetMode(ino, mode), api.OK)
	case 1:
		f.stat.Uid = d.upTo(50)
		is(t, "SetOwner", x.SetOwner(ino, f.stat.Uid, -1), api.OK)
	case 2:
		f.stat.Atime, f.stat.Mtime = int64(d.upTo(1000)), int64(d.upTo(1000))
		is(t, "SetTimes", x.SetTimes(ino, f.stat.Atime, f.stat.Mtime), api.OK)
	}
}

// P2.1 to P2.12, R4: whatever is called, a table, its copy and the model of each are alike.
func TestModel(t *testing.T) {
	for _, n := range []int{1, 3, 9, 30, 100, 500} {
		d := dice(n)
		x, m := made(t, n, 5), newModel(n, 5)
		old, oldModel := x.Copy(), m.copied()
		for k := range 1200 {
			step(t, &d, x, m)
			if k%5 == 0 {
				alike(t, x, m)
			}
			if k%3 == 0 {
				step(t, &d, old, oldModel)
			}
			if k%60 == 0 {
				alike(t, old, oldModel)
				old, oldModel = x.Copy(), m.copied()
			}
		}
		alike(t, x, m)
		alike(t, old, oldModel)
	}
}
