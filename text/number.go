package text

import (
	"math"
	"strconv"
)

// The widths of Number.
const (
	minWidth = 1
	maxWidth = 100
)

// numbering is what stands ahead of the next line.
type numbering struct {
	next, step, width int
	all               bool // empty lines, too
	over              bool // there is no next number
}

// Number: lines with numbers ahead.
func Number(b []byte, start, step, width int, all bool) []byte {
	n := &numbering{next: start, step: step, width: min(max(width, minWidth), maxWidth), all: all}
	return rewrite(b, n.line)
}

// line: one with its number, or with blanks in its stead.
func (n *numbering) line(out, text []byte) []byte {
	if n.over || len(text) == 0 && !n.all {
		out = fill(out, ' ', n.width+1)
	} else {
		out = append(padded(out, n.next, 10, ' ', n.width), '\t')
		n.advance()
	}
	return append(out, text...)
}

// advance: to the next number, if an int holds it.
func (n *numbering) advance() {
	if n.step > 0 && n.next > math.MaxInt-n.step || n.step < 0 && n.next < math.MinInt-n.step {
		n.over = true
		return
	}
	n.next += n.step
}

// padded: a number in a base, with so many of a byte ahead that it takes its places.
func padded(out []byte, n, base int, pad byte, places int) []byte {
	digits := strconv.FormatInt(int64(n), base)
	return append(fill(out, pad, places-len(digits)), digits...)
}

// fill: n of a byte; none, if n is below 0.
func fill(out []byte, c byte, n int) []byte {
	for range n {
		out = append(out, c)
	}
	return out
}
