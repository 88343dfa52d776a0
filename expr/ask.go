package expr

import (
	"tinsel/api"
	"tinsel/fault"
)

// truly is an expression of test, or a part of one, that was read: it tells whether it is so when it is reckoned.
type truly func() bool

// asker reads the expressions of test.
type asker struct {
	gate *fault.Gate
	*words
}

// readTest: an expression of test: by how many words it has.
func readTest(g *fault.Gate, args []string) truly {
	a := asker{g, newWords(args)}
	switch len(args) {
	case 0:
		return filled("")
	case 1:
		return filled(args[0])
	case 2:
		return a.two(args[0], args[1])
	case 3:
		return a.three(args[0], args[1], args[2])
	case 4:
		return a.four(args)
	}
	return a.more()
}

// filled: is it not empty?
func filled(word string) truly {
	return func() bool { return word != "" }
}

// not: the other way round.
func not(it truly) truly {
	return func() bool { return !it() }
}

// both: each is reckoned, whatever the other one is.
func both(one, other truly) truly {
	return func() bool {
		x, y := one(), other()
		return x && y
	}
}

// either: likewise.
func either(one, other truly) truly {
	return func() bool {
		x, y := one(), other()
		return x || y
	}
}

// two: of two words.
func (a asker) two(first, second string) truly {
	if first == "!" {
		return not(filled(second))
	}
	it := unary(a.gate, first, second)
	if it == nil {
		giveUp(api.EUSAGE)
	}
	return it
}

// three: of three words. A word in their middle that may join the others does, whatever they look like.
func (a asker) three(first, second, third string) truly {
	if it := binary(a.gate, first, second, third); it != nil {
		return it
	}
	switch {
	case second == "-a":
		return both(filled(first), filled(third))
	case second == "-o":
		return either(filled(first), filled(third))
	case first == "!":
		return not(a.two(second, third))
	case first == "(" && third == ")":
		return filled(second)
	}
	giveUp(api.EUSAGE)
	return nil
}

// four: of four words.
func (a asker) four(l []string) truly {
	switch {
	case l[0] == "!":
		return not(a.three(l[1], l[2], l[3]))
	case l[0] == "(" && l[3] == ")":
		return a.two(l[1], l[2])
	}
	return a.more()
}

// more: of more words, by the grammar.
func (a asker) more() truly {
	it := a.anyOf()
	a.end()
	return it
}

// anyOf: parts with -o between them.
func (a asker) anyOf() truly {
	it := a.allOf()
	if a.took("-o") {
		return either(it, a.anyOf())
	}
	return it
}

// allOf: parts with -a between them.
func (a asker) allOf() truly {
	it := a.maybeNot()
	if a.took("-a") {
		return both(it, a.allOf())
	}
	return it
}

// maybeNot: a part, with any number of ! ahead of it.
func (a asker) maybeNot() truly {
	if a.took("!") {
		return not(a.maybeNot())
	}
	return a.primary()
}

// primary: the first of its forms that applies.
func (a asker) primary() truly {
	if l := a.left; len(l) >= 3 {
		if it := binary(a.gate, l[0], l[1], l[2]); it != nil {
			a.left = l[3:]
			return it
		}
	}
	if a.took("(") {
		it := a.anyOf()
		a.must(")")
		return it
	}
	if l := a.left; len(l) >= 2 {
		if it := unary(a.gate, l[0], l[1]); it != nil {
			a.left = l[2:]
			return it
		}
	}
	return filled(a.next())
}
