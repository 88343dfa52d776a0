package desc

import "tinsel/api"

// kind is what a description can be: a file, a pipe's end, a tape. All of
// them can be asked this; what only some can do is asked of these by name.
type kind interface {
	read(n int) ([]byte, api.Errno)
	write(b []byte) (int, api.Errno)
	stat() (api.Stat, api.Errno)
	end() // no descriptor leads to it any more
}

// description is what descriptors lead to, and how many do.
type description struct {
	what kind
	fds  int
}

// asFile: what a descriptor leads to, if it is a file; else the error other.
func (p *Proc) asFile(fd int, other api.Errno) (*file, api.Errno) {
	d, e := p.lead(fd)
	if e != api.OK {
		return nil, e
	}
	if f, ok := d.what.(*file); ok {
		return f, api.OK
	}
	return nil, other
}

// asTape: likewise a tape.
func (p *Proc) asTape(fd int, other api.Errno) (*tape, api.Errno) {
	d, e := p.lead(fd)
	if e != api.OK {
		return nil, e
	}
	if t, ok := d.what.(*tape); ok {
		return t, api.OK
	}
	return nil, other
}

// Read: at most n bytes.
func (p *Proc) Read(fd, n int) ([]byte, api.Errno) {
	d, e := p.lead(fd)
	if e != api.OK {
		return nil, e
	}
	return d.what.read(n)
}

// Write: how many bytes were written.
func (p *Proc) Write(fd int, b []byte) (int, api.Errno) {
	d, e := p.lead(fd)
	if e != api.OK {
		return 0, e
	}
	return d.what.write(b)
}

// Fstat: what there is to know.
func (p *Proc) Fstat(fd int) (api.Stat, api.Errno) {
	d, e := p.lead(fd)
	if e != api.OK {
		return api.Stat{}, e
	}
	return d.what.stat()
}
