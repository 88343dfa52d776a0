package buf

import (
	"bytes"

	"tinsel/api"
	"tinsel/fault"
)

// Reader asks a descriptor for a block at a time.
type Reader struct {
	made  bool
	gate  *fault.Gate
	fd    int
	block [api.Block]byte
	left  []byte // of block: what is not told yet
	over  bool   // nothing is asked any more: the end, or err
	err   api.Errno
}

// NewReader: one of a descriptor's bytes.
func NewReader(g *fault.Gate, fd int) *Reader { return &Reader{made: true, gate: g, fd: fd} }

// more: is a byte left? If none is, the descriptor is asked.
func (r *Reader) more() bool {
	switch {
	case r == nil || !r.made:
		return false
	case len(r.left) > 0 || r.over:
		return len(r.left) > 0
	}
again:
	b, e := r.gate.Read(r.fd, api.Block)
	if e == api.EINTR {
		goto again
	}
	r.left, r.err = r.block[:copy(r.block[:], b)], e
	r.over = len(r.left) == 0
	return !r.over
}

// take: the next n bytes of those that are left, which the next read writes over.
func (r *Reader) take(n int) []byte {
	b := r.left[:n]
	r.left = r.left[n:]
	return b
}

// Byte: the next byte; false: there is none.
func (r *Reader) Byte() (byte, bool) {
	if !r.more() {
		return 0, false
	}
	return r.take(1)[0], true
}

// Until: the bytes up to the next one that is end, with it, or all that are left; false: none is.
func (r *Reader) Until(end byte) ([]byte, bool) {
	var told []byte
	for found := false; !found && r.more(); {
		n := bytes.IndexByte(r.left, end) + 1
		if found = n > 0; !found {
			n = len(r.left)
		}
		told = append(told, r.take(n)...)
	}
	return told, len(told) > 0
}

// Line: the next line with its end; false: there is none.
func (r *Reader) Line() ([]byte, bool) { return r.Until('\n') }

// lines: those that are left.
func (r *Reader) lines(yield func([]byte) bool) {
	for line, ok := r.Line(); ok && yield(line); {
		line, ok = r.Line()
	}
}

// All: all bytes that are left.
func (r *Reader) All() []byte {
	var all []byte
	for r.more() {
		all = append(all, r.take(len(r.left))...)
	}
	return all
}

// Err: why nothing is asked any more; OK: there is no error.
func (r *Reader) Err() api.Errno {
	if r == nil || !r.made {
		return api.EFAULT
	}
	return r.err
}
