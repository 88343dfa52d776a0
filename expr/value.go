package expr

import (
	"cmp"
	"strconv"
	"strings"

	"tinsel/api"
	"tinsel/number"
	"tinsel/regex"
)

// isInteger: an integer's text, of whatever size?
func isInteger(s string) bool {
	_, e := number.Int(s)
	return e != api.EINVAL
}

// isNothing: nothing's text?
func isNothing(s string) bool {
	n, e := number.Int(s)
	return s == "" || e == api.OK && n == 0
}

// told: a number as a value, if it may be one.
func told(n int) string {
	if size(n) > api.MaxNumber {
		giveUp(api.ERANGE)
	}
	return strconv.Itoa(n)
}

func size(n int) int { return max(n, -n) }

// operation: what an operator does with the values of its operands.
func operation(op string) func(a, b string) string {
	switch op {
	case "|":
		return firstOf
	case "&":
		return ifBoth
	case "+", "-", "*", "/", "%":
		return func(a, b string) string {
			m, n := integer(a), integer(b)
			return told(reckoned(op, m, n))
		}
	case ":", "match":
		return match
	case "index":
		return func(a, b string) string { return told(firstByte(a, b)) }
	}
	return func(a, b string) string { return truth(holds(op, order(a, b))) }
}

// firstOf: the first one that is something.
func firstOf(a, b string) string {
	switch {
	case !isNothing(a):
		return a
	case !isNothing(b):
		return b
	}
	return "0"
}

// ifBoth: the first one, if both are something.
func ifBoth(a, b string) string {
	if isNothing(a) || isNothing(b) {
		return "0"
	}
	return a
}

// reckoned: of two integers.
func reckoned(op string, a, b int) int {
	switch op {
	case "+":
		return a + b
	case "-":
		return a - b
	case "*":
		return product(a, b)
	}
	if b == 0 {
		giveUp(api.EINVAL)
	}
	if op == "/" {
		return a / b
	}
	return a % b
}

// product: its size is looked at ahead of it, as it might wrap.
func product(a, b int) int {
	if a != 0 && size(b) > api.MaxNumber/size(a) {
		giveUp(api.ERANGE)
	}
	return a * b
}

// order: how two values stand to each other: below 0, if the first one is the lesser one.
func order(a, b string) int {
	if isInteger(a) && isInteger(b) {
		return cmp.Compare(integer(a), integer(b))
	}
	return strings.Compare(a, b)
}

// holds: is it so of two that stand like that to each other?
func holds(op string, order int) bool {
	switch op {
	case "=", "==", "-eq":
		return order == 0
	case "!=", "-ne":
		return order != 0
	case "<", "-lt":
		return order < 0
	case "<=", "-le":
		return order <= 0
	case ">", "-gt":
		return order > 0
	}
	return order >= 0
}

// truth: of what is so, and what is not.
func truth(so bool) string {
	if so {
		return "1"
	}
	return "0"
}

// match: what a pattern takes of a text's beginning: its first group, or, if it has none, how many bytes.
func match(a, b string) string {
	r, e := regex.Compile(b, false, false)
	if e != api.OK {
		giveUp(e)
	}
	spans, ok := r.Find(a, 0)
	ok = ok && spans[0].Lo == 0
	switch {
	case r.Groups() == 0 && ok:
		return told(spans[0].Hi)
	case r.Groups() == 0:
		return "0"
	case ok && spans[1].Lo >= 0:
		return a[spans[1].Lo:spans[1].Hi]
	}
	return ""
}

// piece: at most so many bytes of a text, from a place on.
func piece(a, place, most string) string {
	if !isInteger(place) || !isInteger(most) {
		return ""
	}
	p, l := integer(place), integer(most)
	if p < 1 || l < 1 || p > len(a) {
		return ""
	}
	rest := a[p-1:]
	return rest[:min(l, len(rest))]
}

// firstByte: the place of the first byte of a that is one of b's; 0: none is.
func firstByte(a, b string) int {
	var wanted [256]bool
	for _, c := range []byte(b) {
		wanted[c] = true
	}
	for i, c := range []byte(a) {
		if wanted[c] {
			return i + 1
		}
	}
	return 0
}
