package walk

import (
	"cmp"
	"slices"
	"strings"

	"tinsel/api"
	"tinsel/fault"
)

// Join: the path of a name in a directory.
func Join(dir, name string) string {
	if dir == "" || strings.HasSuffix(dir, "/") {
		return dir + name
	}
	return dir + "/" + name
}

// Names: what lies in a directory, and the first error. What was read stands
// beside an error, too.
func Names(g *fault.Gate, p string, sorted bool) ([]api.Entry, api.Errno) {
	fd, e := g.Open(p, api.Read|api.DirOnly, 0)
	if e != api.OK {
		return nil, e
	}
	l, e := entries(g, fd)
	e = cmp.Or(e, g.Close(fd))
	if sorted {
		slices.SortStableFunc(l, func(a, b api.Entry) int { return strings.Compare(a.Name, b.Name) })
	}
	return l, e
}

// entries: those of an open directory, as far as they can be read, without its
// own and the one above it.
func entries(g *fault.Gate, fd int) ([]api.Entry, api.Errno) {
	var l []api.Entry
	x, ok, e := g.Readdir(fd)
	for ; ok && e == api.OK; x, ok, e = g.Readdir(fd) {
		if x.Name != "." && x.Name != ".." {
			l = append(l, x)
		}
	}
	return l, e
}
