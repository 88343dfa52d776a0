package expr

import "tinsel/api"

// value is an expression of expr, or a part of one, that was read: it tells what it comes to when it is reckoned.
type value func() string

// readValue: an expression of expr.
func readValue(args []string) value {
	w := newWords(args)
	v := w.level(loosest)
	w.end()
	return v
}

// How much an operator binds.
const (
	loosest  = 1
	tightest = 6
)

// binding: how much a word binds what stands on both sides of it; 0: it is no such operator.
func binding(word string) int {
	switch word {
	case "|":
		return loosest
	case "&":
		return 2
	case "=", "!=", "<", "<=", ">", ">=":
		return 3
	case "+", "-":
		return 4
	case "*", "/", "%":
		return 5
	case ":":
		return tightest
	}
	return 0
}

// level: operands with operators between them that bind so much, or more.
func (w *words) level(n int) value {
	if n > tightest {
		return w.operand()
	}
	v := w.level(n + 1)
	for len(w.left) > 0 && binding(w.left[0]) == n {
		op := w.next()
		v = joined(op, v, w.level(n+1))
	}
	return v
}

// operand: what stands between operators.
func (w *words) operand() value {
	switch word := w.next(); word {
	case "(":
		v := w.level(loosest)
		w.must(")")
		return v
	case "+":
		return plain(w.next())
	case "match", "index":
		a, b := w.operand(), w.operand()
		return joined(word, a, b)
	case "substr":
		a, p, l := w.operand(), w.operand(), w.operand()
		return func() string { return piece(a(), p(), l()) }
	case "length":
		a := w.operand()
		return func() string { return told(len(a())) }
	default:
		if word == ")" || binding(word) > 0 {
			giveUp(api.EUSAGE)
		}
		return plain(word)
	}
}

// plain: a word that stands for itself.
func plain(word string) value {
	return func() string { return word }
}

// joined: both operands are reckoned ahead of what is done with them.
func joined(op string, a, b value) value {
	do := operation(op)
	return func() string { return do(a(), b()) }
}
