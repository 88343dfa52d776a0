package text

import (
	"math"

	"tinsel/api"
)

// ruler is a column of a line, told by the stops. The column itself may be
// greater than any int, as stops may; these numbers are not.
type ruler struct {
	stops []int
	stop  int // how many stops are reached
	past  int // columns behind the last one of them
}

// newRuler: at the beginning of a line; false: the stops are none.
func newRuler(stops []int) (ruler, bool) {
	if len(stops) == 0 {
		stops = []int{8}
	}
	last := 0
	for _, s := range stops {
		if s <= last {
			return ruler{}, false
		}
		last = s
	}
	return ruler{stops: stops}, true
}

// gap: columns from one stop (or, of 0, the beginning) to the next; false: there is no next one.
func (r *ruler) gap(stop int) (int, bool) {
	switch {
	case len(r.stops) == 1 || stop == 0:
		return r.stops[0], true
	case stop < len(r.stops):
		return r.stops[stop] - r.stops[stop-1], true
	}
	return 0, false
}

// tab: to the next stop, or by one column; how many columns these are.
func (r *ruler) tab() int {
	gap, ok := r.gap(r.stop)
	if !ok {
		r.past++
		return 1
	}
	n := gap - r.past
	r.stop, r.past = r.stop+1, 0
	return n
}

// back: by one column, if there is one.
func (r *ruler) back() {
	if r.past == 0 && r.stop > 0 {
		r.stop--
		r.past, _ = r.gap(r.stop)
	}
	r.past = max(r.past-1, 0)
}

// pass: to the column behind a byte.
func (r *ruler) pass(c byte) {
	switch c {
	case '\t':
		r.tab()
	case '\b':
		r.back()
	case '\r':
		r.stop, r.past = 0, 0
	default:
		r.past++
		if gap, ok := r.gap(r.stop); ok && r.past == gap {
			r.stop, r.past = r.stop+1, 0
		}
	}
}

// expander writes lines without tabs.
type expander struct {
	ruler ruler // where a line begins
	over  bool  // there were more bytes than an answer may have
}

// Expand: blanks for tabs.
func Expand(b []byte, stops []int) ([]byte, api.Errno) {
	r, ok := newRuler(stops)
	if !ok {
		return nil, api.EINVAL
	}
	x := &expander{ruler: r}
	out := rewrite(b, x.line)
	if x.over {
		return nil, api.ERANGE
	}
	return out, api.OK
}

// line: one with blanks for its tabs.
func (x *expander) line(out, text []byte) []byte {
	r := x.ruler
	for _, c := range text {
		if c != '\t' {
			out = append(out, c)
			r.pass(c)
			continue
		}
		n := r.tab()
		if n > math.MaxInt32-len(out) { // a stop may be far beyond what any memory holds
			x.over = true
			return nil
		}
		out = fill(out, ' ', n)
	}
	return out
}

// unexpander writes lines with tabs.
type unexpander struct {
	ruler ruler // where a line begins
	all   bool  // runs anywhere
}

// Unexpand: tabs for blanks.
func Unexpand(b []byte, stops []int, all bool) ([]byte, api.Errno) {
	r, ok := newRuler(stops)
	if !ok {
		return nil, api.EINVAL
	}
	u := unexpander{r, all}
	return rewrite(b, u.line), api.OK
}

// line: one with its runs written anew.
func (u unexpander) line(out, text []byte) []byte {
	r := u.ruler
	for at := 0; at < len(text); {
		n := blanks(text[at:])
		switch {
		case n == 0:
			n = 1
			r.pass(text[at])
			out = append(out, text[at])
		case at > 0 && !u.all:
			return append(out, text[at:]...)
		default:
			out = r.anew(out, text[at:at+n], at == 0)
		}
		at += n
	}
	return out
}

// blanks: how many a text begins with.
func blanks(text []byte) int {
	n := 0
	for n < len(text) && isBlank(text[n]) {
		n++
	}
	return n
}

// anew: a run, written by tabs to the stops that it reaches, then blanks to its end.
func (r *ruler) anew(out, text []byte, begins bool) []byte {
	from := *r
	for _, c := range text {
		r.pass(c)
	}
	if !begins && string(text) == " " {
		return append(out, ' ')
	}
	if r.stop > from.stop {
		from.past = 0
	}
	out = fill(out, '\t', r.stop-from.stop)
	return fill(out, ' ', r.past-from.past)
}
