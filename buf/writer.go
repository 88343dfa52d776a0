package buf

import (
	"tinsel/api"
	"tinsel/fault"
)

// Writer keeps bytes till there is a block of them.
type Writer struct {
	made    bool
	gate    *fault.Gate
	fd      int
	block   [api.Block]byte
	kept    []byte // in block, unless they are too many: then they are written at once
	written int
	err     api.Errno
}

// NewWriter: one that writes to a descriptor.
func NewWriter(g *fault.Gate, fd int) *Writer { return &Writer{made: true, gate: g, fd: fd} }

// Write: some bytes more.
func (w *Writer) Write(b []byte) {
	if w.Err() != api.OK {
		return
	}
	if len(w.kept) == 0 {
		w.kept = w.block[:0]
	}
	w.kept = append(w.kept, b...)
	if len(w.kept) >= api.Block {
		w.put()
	}
}

// Text: likewise, of a text.
func (w *Writer) Text(s string) { w.Write([]byte(s)) }

// put: what is kept is written.
func (w *Writer) put() {
	n, e := WriteAll(w.gate, w.fd, w.kept)
	w.written += n
	w.kept, w.err = nil, e
}

// Flush: nothing is kept any more.
func (w *Writer) Flush() api.Errno {
	if w.Err() == api.OK {
		w.put()
	}
	return w.Err()
}

// Err: why all that is given is lost; OK: there is no error.
func (w *Writer) Err() api.Errno {
	if w == nil || !w.made {
		return api.EFAULT
	}
	return w.err
}

// Written: how many bytes were written by now.
func (w *Writer) Written() int {
	if w == nil {
		return 0
	}
	return w.written
}
