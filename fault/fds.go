package fault

import "tinsel/api"

// Open: a file by its path.
func (g *Gate) Open(path string, flags int, mode api.Mode) (int, api.Errno) {
	d := g.reach()
	return run(d.next("open"), func() (int, api.Errno) { return d.Open(path, flags, mode) })
}

// Pipe: a pipe's ends: to read, to write.
func (g *Gate) Pipe() (int, int, api.Errno) {
	d := g.reach()
	ends, e := run(d.next("pipe"), func() ([2]int, api.Errno) {
		r, w, e := d.Pipe()
		return [2]int{r, w}, e
	})
	return ends[0], ends[1], e
}

// Read: at most n bytes.
func (g *Gate) Read(fd, n int) ([]byte, api.Errno) {
	d := g.reach()
	c := d.next("read")
	return run(c, func() ([]byte, api.Errno) { return d.Read(fd, most(c, n)) })
}

// Write: how many bytes were written.
func (g *Gate) Write(fd int, b []byte) (int, api.Errno) {
	d := g.reach()
	c := d.next("write")
	return run(c, func() (int, api.Errno) { return d.Write(fd, b[:most(c, len(b))]) })
}

// Seek: the place where reading and writing go on.
func (g *Gate) Seek(fd, off, whence int) (int, api.Errno) {
	d := g.reach()
	return run(d.next("seek"), func() (int, api.Errno) { return d.Seek(fd, off, whence) })
}

// Close: a descriptor is open no more.
func (g *Gate) Close(fd int) api.Errno {
	d := g.reach()
	return runBare(d.next("close"), func() api.Errno { return d.Close(fd) })
}

// Dup: one more descriptor of the same file and place.
func (g *Gate) Dup(fd int) (int, api.Errno) {
	d := g.reach()
	return run(d.next("dup"), func() (int, api.Errno) { return d.Dup(fd) })
}

// Dup2: that one.
func (g *Gate) Dup2(fd, to int) (int, api.Errno) {
	d := g.reach()
	return run(d.next("dup2"), func() (int, api.Errno) { return d.Dup2(fd, to) })
}

// Fstat: what there is to know.
func (g *Gate) Fstat(fd int) (api.Stat, api.Errno) {
	d := g.reach()
	return run(d.next("fstat"), func() (api.Stat, api.Errno) { return d.Fstat(fd) })
}

// Ftruncate: a size.
func (g *Gate) Ftruncate(fd, size int) api.Errno {
	d := g.reach()
	return runBare(d.next("ftruncate"), func() api.Errno { return d.Ftruncate(fd, size) })
}

// Readdir: the next entry; false: there is none.
func (g *Gate) Readdir(fd int) (api.Entry, bool, api.Errno) {
	d := g.reach()
	ok := false
	x, e := run(d.next("readdir"), func() (x api.Entry, e api.Errno) {
		x, ok, e = d.Readdir(fd)
		return x, e
	})
	return x, ok, e
}
