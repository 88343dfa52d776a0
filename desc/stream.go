package desc

import (
	"slices"

	"tinsel/api"
)

// pipe is what both ends of a pipe lead to: the bytes that it holds, and
// which of its ends a descriptor leads to.
type pipe struct {
	bytes  []byte
	reader bool
	writer bool
}

// readEnd and writeEnd are a pipe's ends.
type (
	readEnd  struct{ *pipe }
	writeEnd struct{ *pipe }
)

// Pipe: a pipe's ends: to read, to write.
func (p *Proc) Pipe() (int, int, api.Errno) {
	if e := p.room(2); e != api.OK {
		return 0, 0, e
	}
	q := &pipe{reader: true, writer: true}
	r := p.lowest(&description{what: readEnd{q}})
	w := p.lowest(&description{what: writeEnd{q}})
	return r, w, api.OK
}

func (q *pipe) stat() (api.Stat, api.Errno) { return streamStat(q.bytes) }

// streamStat: of what is no file there is only this to know.
func streamStat(b []byte) (api.Stat, api.Errno) {
	return api.Stat{Mode: api.TypePipe, Size: len(b)}, api.OK
}

func (r readEnd) read(n int) ([]byte, api.Errno) {
	switch {
	case n < 0:
		return nil, api.EINVAL
	case len(r.bytes) == 0 && r.writer && n > 0:
		return nil, api.EAGAIN
	}
	n = min(n, len(r.bytes))
	b := slices.Clone(r.bytes[:n])
	r.bytes = slices.Delete(r.bytes, 0, n)
	return b, api.OK
}

func (r readEnd) write([]byte) (int, api.Errno) { return 0, api.EBADF }

func (r readEnd) end() { r.reader = false }

func (w writeEnd) read(int) ([]byte, api.Errno) { return nil, api.EBADF }

func (w writeEnd) write(b []byte) (int, api.Errno) {
	room := api.PipeMax - len(w.bytes)
	switch {
	case !w.reader:
		return 0, api.EPIPE
	case room == 0 && len(b) > 0:
		return 0, api.EAGAIN
	}
	n := min(len(b), room)
	w.bytes = append(w.bytes, b[:n]...)
	return n, api.OK
}

func (w writeEnd) end() { w.writer = false }

// tape is bytes outside the file system, and the place of reading.
type tape struct {
	bytes []byte
	place int
}

// Tape: bytes outside the file system: they are read from the beginning, written at the end.
func (p *Proc) Tape(b []byte) (int, api.Errno) {
	if e := p.room(1); e != api.OK {
		return 0, e
	}
	return p.lowest(&description{what: &tape{bytes: slices.Clone(b)}}), api.OK
}

// Taped: all that is on a tape.
func (p *Proc) Taped(fd int) ([]byte, api.Errno) {
	t, e := p.asTape(fd, api.EINVAL)
	if e != api.OK {
		return nil, e
	}
	return slices.Clone(t.bytes), api.OK
}

func (t *tape) read(n int) ([]byte, api.Errno) {
	if n < 0 {
		return nil, api.EINVAL
	}
	n = min(n, len(t.bytes)-t.place)
	b := slices.Clone(t.bytes[t.place : t.place+n])
	t.place += n
	return b, api.OK
}

func (t *tape) write(b []byte) (int, api.Errno) {
	t.bytes = append(t.bytes, b...)
	return len(b), api.OK
}

func (t *tape) stat() (api.Stat, api.Errno) { return streamStat(t.bytes) }

func (t *tape) end() {} // its bytes go with it
