package find

import (
	"strings"

	"tinsel/api"
)

// part is a piece of an expression as it is written: a leaf, or what binds such pieces.
type part interface{ write(b *strings.Builder) }

// leaf is a test or an action, and the arguments that it was read from.
type leaf struct {
	words []string
	is    test
}

// not is what a ! stands ahead of.
type not struct{ of part }

// pair is two parts, bound by -a, -o or a comma.
type pair struct {
	left  part
	sign  string
	right part
}

func (l leaf) write(b *strings.Builder) { b.WriteString(strings.Join(l.words, " ")) }

func (n not) write(b *strings.Builder) {
	b.WriteString("! ")
	n.of.write(b)
}

func (p pair) write(b *strings.Builder) {
	b.WriteString("( ")
	p.left.write(b)
	b.WriteString(" " + p.sign + " ")
	p.right.write(b)
	b.WriteString(" )")
}

// test is a test or an action; which one its type tells. acts: is nothing printed of itself where this one stands?
type test interface{ acts() bool }

// asks and does: what tests and actions have in common.
type (
	asks struct{}
	does struct{}
)

func (asks) acts() bool { return false }
func (does) acts() bool { return true }

// The tests, and -prune, beside which the rest is printed.
type (
	fixed struct { // -true, -false, and what speaks of the walk alone
		asks
		is bool
	}
	named struct { // -name and its kin
		asks
		pattern string
		base    bool // the last name alone is looked at
		flags   int
	}
	typed struct { // -type
		asks
		kind api.Mode
	}
	allowed struct { // -perm
		asks
		sign byte
		bits api.Mode
	}
	counted struct { // -links and its kin
		asks
		what string
		n    count
	}
	sized struct { // -size
		asks
		unit int
		n    count
	}
	aged struct { // -mtime and its kin
		asks
		what byte // the letter of the time
		unit int64
		n    count
	}
	newer struct { // -newer
		asks
		place int
	}
	prune struct{ asks } // -prune
)

// The other actions.
type (
	shown struct { // -print and its kin
		does
		long bool
		end  byte
	}
	quit struct{ does } // -quit
	exec struct {       // -exec
		does
		words []string
	}
	gone struct{ does } // -delete
)

// count is an N of the chapter: more than a number, fewer, or just so many.
type count struct {
	sign byte
	n    int
}

// fits: is a number such a one?
func (c count) fits(n int) bool {
	switch c.sign {
	case '+':
		return n > c.n
	case '-':
		return n < c.n
	}
	return n == c.n
}
