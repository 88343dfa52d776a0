package inode

import (
	"tinsel/api"
)

// ref leads to a block: it is the block's number and 1, so that 0 is a hole
// and an indirect block that was just taken leads to none.
type ref int

func (r ref) block() int { return int(r) - 1 }

// pointers is what an indirect block holds.
type pointers [api.Ptrs]ref

// refBytes: a ref's bytes in an indirect block, the lowest first.
const refBytes = api.Block / api.Ptrs

// A hole's pointers are holes, so that a map can be followed through them.
func (t *Table) load(r ref) pointers {
	var p pointers
	b, e := t.store.Read(r.block())
	if e != api.OK {
		return p
	}
	for i := range p {
		for j := range refBytes {
			p[i] |= ref(b[i*refBytes+j]) << (8 * j)
		}
	}
	return p
}

func (t *Table) save(r ref, p pointers) {
	var b [api.Block]byte
	for i := range p {
		for j := range refBytes {
			b[i*refBytes+j] = byte(p[i] >> (8 * j))
		}
	}
	t.store.Write(r.block(), 0, b[:])
}

// A root is a ref that stands in the inode, and how many places it leads to.
type root struct {
	ref    *ref
	places int
}

// place tells place k: its root, and which of the root's places it is.
func (n *node) place(k int) (root, int) {
	switch {
	case k < api.Direct:
		return root{&n.direct[k], 1}, 0
	case k < api.Direct+api.Ptrs:
		return root{&n.single, api.Ptrs}, k - api.Direct
	default:
		return root{&n.double, api.Ptrs * api.Ptrs}, k - api.Direct - api.Ptrs
	}
}

// roots: all of them, in the order of their places.
func (n *node) roots() []root {
	var l []root
	for k := 0; k < api.MaxFile/api.Block; {
		r, _ := n.place(k)
		l = append(l, r)
		k += r.places
	}
	return l
}

// look: what place k of r's places leads to.
func (t *Table) look(r ref, places, k int) ref {
	if r == 0 || places == 1 {
		return r
	}
	below := places / api.Ptrs
	return t.look(t.load(r)[k/below], below, k%below)
}

// take: what place k of r's places leads to; if it is a hole, a block is
// taken for it, behind those that are to lead to it. If one of these can't
// be had, none of them is kept.
func (t *Table) take(r *ref, places, k int) (ref, bool) {
	giveBack := func() {}
	if *r == 0 {
		i, e := t.store.Alloc()
		if e != api.OK {
			return 0, false
		}
		*r = ref(i + 1)
		giveBack = func() { t.free(r) }
	}
	if places == 1 {
		return *r, true
	}
	p, below := t.load(*r), places/api.Ptrs
	found, ok := t.take(&p[k/below], below, k%below)
	if !ok {
		giveBack()
		return 0, false
	}
	t.save(*r, p)
	return found, true
}

// free: its block is free, and it is a hole.
func (t *Table) free(r *ref) {
	t.store.Free(r.block())
	*r = 0
}

// cut: an inode's places from keep on are holes, and their blocks are free.
func (t *Table) cut(n *node, keep int) {
	for _, r := range n.roots() {
		t.prune(r.ref, r.places, keep)
		keep -= r.places
	}
}

// prune: r's places from keep on are holes; if all are, r is one, too.
func (t *Table) prune(r *ref, places, keep int) {
	if *r == 0 || keep >= places {
		return
	}
	if places > 1 {
		p, below := t.load(*r), places/api.Ptrs
		for i := range p {
			t.prune(&p[i], below, keep-i*below)
		}
		if p != (pointers{}) {
			t.save(*r, p)
			return
		}
	}
	t.free(r)
}

// owned: an inode's blocks, each ahead of those that it leads to.
func (t *Table) owned(n *node) []int {
	var l []int
	for _, r := range n.roots() {
		l = t.gather(l, *r.ref, r.places)
	}
	return l
}

func (t *Table) gather(l []int, r ref, places int) []int {
	if r == 0 {
		return l
	}
	l = append(l, r.block())
	if places > 1 {
		for _, p := range t.load(r) {
			l = t.gather(l, p, places/api.Ptrs)
		}
	}
	return l
}
