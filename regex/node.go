package regex

// Limits of a pattern that the chapter names.
const (
	maxGroups = 20
	maxSize   = 2000
	maxRounds = 255
)

// endless stands for the most rounds of a repetition that has no end.
const endless = -1

// node is a part of a pattern.
type node interface {
	// size: as it is reckoned against maxSize; at most one more than that, so that no sum and no product grows too great.
	size() int
}

// single takes one byte of a set: a byte, a period or a bracket.
type single struct{ set *byteSet }

// edge is the beginning of the text, or its end.
type edge struct{ end bool }

// group keeps what its pattern took.
type group struct {
	number int
	inner  node
}

// row is parts one behind the other: a branch.
type row []node

// choice is branches, of which a way takes one.
type choice []row

// repeat does rounds of a part.
type repeat struct {
	inner       node
	least, most int
	from, to    int // the groups inside are those above from, up to to
}

// bounded: a size as far as it counts.
func bounded(n int) int { return min(n, maxSize+1) }

func (x single) size() int { return 1 }

func (x edge) size() int { return 1 }

func (x group) size() int { return bounded(x.inner.size() + 1) }

func (x row) size() int { return sum(x) }

func (x choice) size() int { return sum(x) }

func (x repeat) size() int { return bounded(x.inner.size() * max(x.least, x.most, 1)) }

// sum: the sizes of several parts.
func sum[N node](list []N) int {
	n := 0
	for _, x := range list {
		n = bounded(n + x.size())
	}
	return n
}

// merged: one repetition in place of several right behind each other, as far as each of them does at most one round, or has no end: a** is a*. Patterns can have thousands of these, as they do not add to the size.
func (x repeat) merged() repeat {
	for {
		inner, ok := x.inner.(repeat)
		if !ok || !x.simple() || !inner.simple() {
			return x
		}
		x.inner = inner.inner
		x.least *= inner.least
		switch {
		case x.most == 0 || inner.most == 0:
			x.most = 0
		case x.most == endless || inner.most == endless:
			x.most = endless
		}
	}
}

// simple: is neither its least nor its most number of rounds a number above 1?
func (x repeat) simple() bool { return x.least <= 1 && x.most <= 1 }
