package regex

import (
	"slices"

	"tinsel/api"
)

// finder goes through a text once, byte by byte, with all ways at a time: those that began further left first, of these the preferred ones first.
type finder struct {
	r     *Regex
	text  string
	at    int        // where it stands
	turn  int        // places that it has stood at, as marks of what was done there
	spans []api.Span // of the way that is being followed
	now   queue      // the ways that wait for the byte ahead of at
	next  queue      // and for the one behind it
	waits []int      // of each atom: the turn in which a way came to wait there
	joins [][2]int   // of each join: the turns in which a way came there that owed nothing, and one that owed
	found bool
	best  []api.Span // the match that was found
}

// queue is ways that wait: at which atoms, and the spans of one after the other.
type queue struct {
	atoms []int
	spans []api.Span
}

func newFinder(r *Regex, text string) *finder {
	f := &finder{r: r, text: text}
	f.spans = make([]api.Span, r.groups+1)
	f.waits = make([]int, len(r.atoms))
	f.joins = make([][2]int, r.joins)
	return f
}

// clearSpans: groups without a span.
func clearSpans(list []api.Span) {
	for i := range list {
		list[i] = api.Span{Lo: -1, Hi: -1}
	}
}

// find: is there a match from a place on (or right there)? The leftmost, of these the longest, of its ways the most preferred one is best.
func (f *finder) find(from int, anywhere bool) bool {
	f.found = false
	f.next.empty()
	for f.at = from; ; f.at++ {
		f.turn++
		f.now, f.next = f.next, f.now
		f.next.empty()
		f.goOn()
		if !f.found && (anywhere || f.at == from) {
			f.begin()
		}
		if f.at == len(f.text) || len(f.next.atoms) == 0 && (f.found || !anywhere) {
			return f.found
		}
	}
}

// empty: no way waits any more.
func (q *queue) empty() { q.atoms, q.spans = q.atoms[:0], q.spans[:0] }

// goOn: the ways that take the byte ahead of at are followed; none that began behind a match.
func (f *finder) goOn() {
	size := len(f.spans)
	for i, a := range f.now.atoms {
		spans := f.now.spans[i*size : (i+1)*size]
		if f.found && f.best[0].Lo < spans[0].Lo {
			return
		}
		if x := f.r.atoms[a]; x.set[f.text[f.at-1]] {
			copy(f.spans, spans)
			x.next(f, false)
		}
	}
}

// begin: a way that begins where the finder stands.
func (f *finder) begin() {
	clearSpans(f.spans)
	f.spans[0].Lo = f.at
	f.r.first(f, false)
}

// leads: is a way that comes to a join the first one here, of those that owe as much?
func (f *finder) leads(join int, owes bool) bool {
	kind := 0
	if owes {
		kind = 1
	}
	if f.joins[join][kind] == f.turn {
		return false
	}
	f.joins[join][kind] = f.turn
	return true
}

// wait: the way waits at an atom, unless a preferred one does already.
func (f *finder) wait(atom int) {
	if f.waits[atom] == f.turn {
		return
	}
	f.waits[atom] = f.turn
	f.next.atoms = append(f.next.atoms, atom)
	f.next.spans = append(f.next.spans, f.spans...)
}

// accept: a way has come to the pattern's end. It is the preferred one of those that end here, and longer than what was found ahead of it, or begins further left.
func (f *finder) accept() {
	f.found = true
	f.best = append(f.best[:0], f.spans...)
	f.best[0].Hi = f.at
}

// told: what was found, as a list of its own.
func (f *finder) told() []api.Span { return slices.Clone(f.best) }
