package inode

import (
	"tinsel/api"
)

// Read: at most n bytes from off on.
func (t *Table) Read(ino, off, n int) ([]byte, api.Errno) {
	d, e := t.find(ino)
	if e != api.OK {
		return nil, e
	}
	if off < 0 || n < 0 {
		return nil, api.EINVAL
	}
	if off >= d.size {
		return nil, api.OK
	}
	b := make([]byte, min(n, d.size-off))
	for done := 0; done < len(b); {
		part := b[done:]
		part = part[:inPlace(off+done, len(part))]
		t.readPlace(d, off+done, part)
		done += len(part)
	}
	return b, api.OK
}

// readPlace: bytes of one place; a hole leaves them noughts.
func (t *Table) readPlace(n *node, off int, part []byte) {
	top, k := n.place(off / api.Block)
	r := t.look(*top.ref, top.places, k)
	if r == 0 {
		return
	}
	if b, e := t.store.Read(r.block()); e == api.OK {
		copy(part, b[off%api.Block:])
	}
}

// inPlace: how many of n bytes from off on lie in off's place.
func inPlace(off, n int) int { return min(n, api.Block-off%api.Block) }

// Write: bytes from off on, as far as there is room.
func (t *Table) Write(ino, off int, b []byte) (int, api.Errno) {
	n, e := t.find(ino)
	if e != api.OK {
		return 0, e
	}
	switch {
	case off < 0:
		return 0, api.EINVAL
	case len(b) == 0:
		return 0, api.OK
	case off >= api.MaxFile:
		return 0, api.EFBIG
	}
	done := t.writePlaces(n, off, b[:min(len(b), api.MaxFile-off)])
	if done == 0 {
		return 0, api.ENOSPC
	}
	n.size = max(n.size, off+done)
	t.touch(n)
	return done, api.OK
}

// writePlaces: place by place; how many bytes were written.
func (t *Table) writePlaces(n *node, off int, b []byte) int {
	done := 0
	for done < len(b) {
		at := off + done
		top, k := n.place(at / api.Block)
		r, ok := t.take(top.ref, top.places, k)
		if !ok {
			break
		}
		part := b[done : done+inPlace(at, len(b)-done)]
		t.store.Write(r.block(), at%api.Block, part)
		done += len(part)
	}
	return done
}

// Truncate: another size.
func (t *Table) Truncate(ino, size int) api.Errno {
	n, e := t.find(ino)
	if e != api.OK {
		return e
	}
	if size < 0 {
		return api.EINVAL
	}
	if size > api.MaxFile {
		return api.EFBIG
	}
	t.cut(n, (size+api.Block-1)/api.Block)
	t.wipe(n, size)
	n.size = size
	t.touch(n)
	return api.OK
}

// wipe: the bytes from size on are noughts in the place in which size lies.
func (t *Table) wipe(n *node, size int) {
	at := size % api.Block
	if at == 0 {
		return
	}
	top, k := n.place(size / api.Block)
	if r := t.look(*top.ref, top.places, k); r != 0 {
		t.store.Write(r.block(), at, make([]byte, api.Block-at))
	}
}

// touch: it was changed now.
func (t *Table) touch(n *node) { n.mtime, n.ctime = t.clock, t.clock }

// Owned: the blocks of its map.
func (t *Table) Owned(ino int) ([]int, api.Errno) {
	n, e := t.find(ino)
	if e != api.OK {
		return nil, e
	}
	return t.owned(n), api.OK
}
