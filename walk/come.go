package walk

import "tinsel/api"

// come: what a path is, told. A directory that is no cycle is stood in from
// then on.
func (w *Walker) come(path string, depth int) api.Visit {
	look := w.gate.Lstat
	if w.has(api.WalkLogical) || w.has(api.WalkRoots) && depth == 0 {
		look = w.follow
	}
	v := api.Visit{Path: path, Depth: depth}
	v.Stat, v.Errno = look(path)
	v.Kind = w.kind(v)
	if v.Kind == api.VisitPre {
		w.in = append(w.in, level{dir: v})
		w.fresh = true
	}
	return v
}

// follow: what a path leads to; of a link that leads nowhere the link.
func (w *Walker) follow(path string) (api.Stat, api.Errno) {
	st, e := w.gate.Stat(path)
	if e == api.ENOENT || e == api.ELOOP {
		return w.gate.Lstat(path)
	}
	return st, e
}

// kind: what a visit tells, by what was seen.
func (w *Walker) kind(v api.Visit) int {
	switch {
	case v.Errno != api.OK:
		return api.VisitErr
	case v.Stat.Mode&api.TypeMask != api.TypeDir:
		return api.VisitFile
	}
	kind := api.VisitPre
outward:
	for at := len(w.in) - 1; ; at-- {
		switch {
		case at < 0:
			break outward
		case w.in[at].dir.Stat.Ino == v.Stat.Ino:
			kind = api.VisitCycle
			break outward
		}
	}
	return kind
}
