package desc

import (
	"slices"

	"tinsel/api"
)

// lead: the description that a descriptor leads to.
func (p *Proc) lead(fd int) (*description, api.Errno) {
	switch {
	case !p.made():
		return nil, api.EFAULT
	case !inTable(fd), p.fds[fd] == nil:
		return nil, api.EBADF
	}
	return p.fds[fd], api.OK
}

// inTable: can there be such a descriptor?
func inTable(fd int) bool { return 0 <= fd && fd < api.OpenMax }

// Fds: the descriptors that are open.
func (p *Proc) Fds() []int {
	var l []int
	if !p.made() {
		return l
	}
	for fd, d := range p.fds {
		if d != nil {
			l = append(l, fd)
		}
	}
	return l
}

// room: are so many descriptors free?
func (p *Proc) room(n int) api.Errno {
	switch {
	case !p.made():
		return api.EFAULT
	case len(p.Fds())+n > api.OpenMax:
		return api.EMFILE
	}
	return api.OK
}

// lowest: the lowest free descriptor leads to d. There must be one.
func (p *Proc) lowest(d *description) int {
	fd := slices.Index(p.fds[:], nil)
	p.attach(fd, d)
	return fd
}

// attach: a free descriptor leads to d.
func (p *Proc) attach(fd int, d *description) {
	p.fds[fd] = d
	d.fds++
}

// detach: a descriptor leads nowhere any more.
func (p *Proc) detach(fd int) {
	d := p.fds[fd]
	p.fds[fd] = nil
	d.fds--
	if d.fds == 0 {
		d.what.end()
	}
}

// Close: a descriptor is open no more.
func (p *Proc) Close(fd int) api.Errno {
	_, e := p.lead(fd)
	if e == api.OK {
		p.detach(fd)
	}
	return e
}

// CloseAll: none is.
func (p *Proc) CloseAll() {
	for _, fd := range p.Fds() {
		p.detach(fd)
	}
}

// Dup: one more descriptor of the same file and place.
func (p *Proc) Dup(fd int) (int, api.Errno) {
	d, e := p.lead(fd)
	if e != api.OK {
		return 0, e
	}
	if e := p.room(1); e != api.OK {
		return 0, e
	}
	return p.lowest(d), api.OK
}

// Dup2: that one.
func (p *Proc) Dup2(fd, to int) (int, api.Errno) {
	d, e := p.lead(fd)
	switch {
	case e != api.OK:
		return 0, e
	case !inTable(to):
		return 0, api.EBADF
	case to == fd:
		return to, api.OK
	}
	if p.fds[to] != nil {
		p.detach(to) // d stays even if this was one of its own: fd still leads to it
	}
	p.attach(to, d)
	return to, api.OK
}
