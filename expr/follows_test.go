package expr_test

import (
	"math/rand"
	"slices"
	"strconv"
	"strings"
	"testing"

	"tinsel/fault"
)

// someIntegers: those near 0, near the ends, and drawn ones.
func someIntegers(r *rand.Rand) []string {
	l := list("0", "-0", "1", "-1", "2", "-2", "3", "-3", "7", "-7", "10", "-10", "007", "-007", "999999999", "-999999999", "1000000000", "-1000000000", "499999999999999999", "-499999999999999999", "500000000000000000", "-500000000000000000", most, "-"+most)
	for range 20 {
		n := r.Int63n(1000000000000000000) >> r.Intn(60)
		l = append(l, strconv.FormatInt(n, 10), strconv.FormatInt(-n, 10))
	}
	return l
}

// isError: is what was told an error?
func isError(s string) bool { return strings.HasPrefix(s, "error ") }

// plain: an integer as Eval writes it.
func plain(s string) string { return eval(s, "+", "0") }

// P18.3: sums do not hang on the order; a difference takes back what a sum adds; quotients and what is left make the number.
func TestNumbersFollow(t *testing.T) {
	l := someIntegers(rand.New(rand.NewSource(183)))
	for _, a := range l {
		for _, b := range l {
			sum := eval(a, "+", b)
			told(t, a+" and "+b, eval(b, "+", a), sum)
			told(t, a+" and "+b, eval(b, "*", a), eval(a, "*", b))
			if !isError(sum) {
				told(t, a+" and "+b, eval("(", a, "+", b, ")", "-", b), plain(a))
				told(t, a+" and "+b, eval("(", a, "+", b, ")", "-", a), plain(b))
				told(t, a+" and "+b, eval(a, "+", b, "-", b), plain(a))
			}
			if plain(b) == "0" {
				told(t, a+" and "+b, eval(a, "/", b, "*", b, "+", a, "%", b), inval)
				continue
			}
			told(t, a+" and "+b, eval(a, "/", b, "*", b, "+", a, "%", b), plain(a))
			told(t, a+" and "+b, eval("(", a, "/", b, ")", "*", b, "+", "(", a, "%", b, ")", "=", a), "1")
		}
	}
}

// P18.3: of three numbers, too.
func TestThreeNumbersFollow(t *testing.T) {
	l := someIntegers(rand.New(rand.NewSource(184)))[:30]
	for _, a := range l {
		for _, b := range l {
			for _, c := range l {
				left, right := eval("(", a, "+", b, ")", "+", c), eval(a, "+", "(", b, "+", c, ")")
				if !isError(left) && !isError(right) {
					told(t, strings.Join(list(a, b, c), " "), left, right)
				}
				left, right = eval(a, "*", "(", b, "+", c, ")"), eval(a, "*", b, "+", a, "*", c)
				if !isError(left) && !isError(right) {
					told(t, strings.Join(list(a, b, c), " "), left, right)
				}
			}
		}
	}
}

// other: the other answer; an error is the same.
func other(s string) string {
	return map[string]string{"true": "false", "false": "true"}[s] + map[bool]string{true: s}[isError(s)]
}

// drawnTest: words of an expression of test that is one, without such as look like others.
func drawnTest(r *rand.Rand, depth int) []string {
	operands := list("", "a", "b", "0", "1", "01", "-7", "x y", over, "/", "/f", "/no")
	word := func() string { return operands[r.Intn(len(operands))] }
	switch n := r.Intn(10); {
	case n < 3 || depth == 0:
		return list(word(), binaries()[r.Intn(len(binaries()))], word())
	case n < 5:
		return list(unaries()[r.Intn(len(unaries()))], word())
	case n == 5:
		return list(word())
	case n == 6:
		return append(list("!"), drawnTest(r, depth-1)...)
	case n == 7:
		return slices.Concat(list("("), drawnTest(r, depth-1), list(")"))
	default:
		return slices.Concat(drawnTest(r, depth-1), list(list("-a", "-o")[n-8]), drawnTest(r, depth-1))
	}
}

// P18.4: ! of a test is the other answer, with the same error.
func TestNotFollows(t *testing.T) {
	r := rand.New(rand.NewSource(185))
	g := gate(t, "f /f 3", "l /no nowhere")
	seen := map[string]int{}
	for range 20000 {
		l := drawnTest(r, 4)
		if len(l) == 4 && l[0] == "!" && strings.Contains("-a -o", l[2]) {
			continue // ! is of all three there, of the first one alone where more words stand around it
		}
		got := test(g, l...)
		seen[got]++
		told(t, "! ( "+strings.Join(l, " ")+" )", test(g, slices.Concat(list("!", "("), l, list(")"))...), other(got))
		told(t, "! ! ( "+strings.Join(l, " ")+" )", test(g, slices.Concat(list("!", "!", "("), l, list(")"))...), got)
		if len(l) <= 3 {
			told(t, "! "+strings.Join(l, " "), test(g, append(list("!"), l...)...), other(got))
		}
	}
	for _, kind := range list("true", "false", inval, ranges) {
		if seen[kind] < 500 {
			t.Errorf("%s just %d times", kind, seen[kind])
		}
	}
}

// P18.4: ! of what is none has the same error.
func TestNotOfNone(t *testing.T) {
	g := gate(t)
	for _, s := range list("a b", "a b c", "-q x", "( x", "x )", "a -eq 1", "1 -eq "+over, "-t x") {
		l := words(s)
		told(t, "! "+s, test(g, append(list("!"), l...)...), test(g, l...))
	}
	for _, g := range []*fault.Gate{nil, {}} {
		told(t, "! x", test(g, "!", "x"), efault)
	}
}

// P18.4: -n is not -z; = is not !=; nor are the other pairs alike.
func TestPairsFollow(t *testing.T) {
	g := gate(t, "f /f 3")
	texts := slices.Concat(looks, binaries(), unaries(), noOperators(), noIntegers(), list("1", "01", "/f", over))
	for _, a := range texts {
		told(t, "-n "+a, test(g, "-n", a), other(test(g, "-z", a)))
		told(t, "-n "+a, test(g, "-n", a), test(g, a))
		for _, b := range texts {
			told(t, a+" = "+b, test(g, a, "=", b), other(test(g, a, "!=", b)))
			told(t, a+" == "+b, test(g, a, "==", b), test(g, a, "=", b))
			told(t, a+" < "+b, test(g, a, "<", b), test(g, b, ">", a))
		}
	}
	numbers := append(someIntegers(rand.New(rand.NewSource(186))), "a", over)
	for _, a := range numbers {
		for _, b := range numbers {
			for _, pair := range [][2]string{{"-eq", "-ne"}, {"-lt", "-ge"}, {"-gt", "-le"}} {
				told(t, a+pair[0]+b, test(g, a, pair[0], b), other(test(g, a, pair[1], b)))
			}
		}
	}
}
