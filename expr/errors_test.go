package expr_test

import (
	"strings"
	"testing"
)

// P18.1: all operands are reckoned: one that would not be needed may be wrong.
func TestAllAreReckoned(t *testing.T) {
	evals(t,
		[2]string{"1 | 1 / 0", inval}, [2]string{"0 & 1 / 0", inval}, [2]string{"1 / 0 | 1", inval}, [2]string{"1 / 0 & 0", inval}, [2]string{"a | b + 1", inval}, [2]string{"0 & " + most + " + 1", ranges}, [2]string{"a | ( b | c : \\( )", regexp}, [2]string{"0 & ( a : [ )", regexp},
		[2]string{"a | ( 0 & 1 / 0 )", inval}, [2]string{"1 | 1 | 1 | 1 % 0", inval}, [2]string{"0 * ( 1 / 0 )", inval}, [2]string{"a = ( 1 / 0 )", inval}, [2]string{"length ( 1 / 0 )", inval}, [2]string{"substr ( 1 / 0 ) a b", inval}, [2]string{"substr a b ( 1 / 0 )", inval}, [2]string{"substr a 0 ( a + 1 )", inval}, [2]string{"substr a ( 1 / 0 ) 0", inval}, [2]string{"index + ( 1 / 0 )", usage}, [2]string{"index a ( 1 / 0 )", inval}, [2]string{"index ( 1 / 0 ) a", inval}, [2]string{"match ( 1 / 0 ) a", inval}, [2]string{"a : ( 1 / 0 )", inval},
		[2]string{"a | " + over, "a"}, [2]string{over + " & 1", over}, [2]string{"0 | " + over, over},
	)
}

// P18.1: of two errors the one that is met first, from the left.
func TestFirstError(t *testing.T) {
	// Parts that each come to one error.
	parts := map[string]string{"( 1 / 0 )": inval, "( a + 1 )": inval, "( " + most + " + 1 )": ranges, "( 1 * " + over + " )": ranges, "( a : \\( )": regexp, "( match a [ )": regexp, "( " + over + " = 1 )": ranges, "( substr a 1 " + over + " )": ranges}
	for first, e := range parts {
		for second, e2 := range parts {
			for _, op := range operators() {
				told(t, first+op+second, eval(words(first+" "+op+" "+second)...), e)
				for _, plain := range list("0", "1", "-5") {
					told(t, plain+op+second, eval(words(plain+" "+op+" "+second)...), e2)
					told(t, first+op+plain, eval(words(first+" "+op+" "+plain)...), e)
				}
			}
			for _, word := range list("match", "index", "substr a", "substr") {
				args := word + " " + first + " " + second
				if word == "substr" {
					args += " ( 0 % 0 )"
				}
				told(t, args, eval(words(args)...), e)
			}
		}
		told(t, "length "+first, eval(words("length "+first)...), e)
		told(t, "substr a 1 "+first, eval(words("substr a 1 "+first)...), e)
	}
	evals(t, [2]string{"1 / 0 + a : \\(", inval}, [2]string{"a : \\( + 1 / 0", regexp}, [2]string{"1 / 0 = " + over + " + 1", inval}, [2]string{over + " + 1 = 1 / 0", ranges}, [2]string{"1 * 2 / 0 + " + most + " * 2", inval}, [2]string{most + " * 2 + 1 / 0", ranges})
}

// P18.1: what is no expression is told ahead of all that reckoning would meet.
func TestUsageFirst(t *testing.T) {
	for _, bad := range list("1 / 0", "a + 1", most+" * 2", "a : [", "match a \\(", over+" < 1", "substr a 1 "+over) {
		for _, end := range list(" )", " 1", " |", " | )", " & (", " = length", " + +", " * substr a 1") {
			told(t, bad+end, eval(words(bad+end)...), usage)
			told(t, "( ( "+bad+end, eval(words("( ( "+bad+end)...), usage)
		}
		told(t, "( "+bad, eval(words("( "+bad)...), usage)
		told(t, "too many", eval(append(repeated(1400, words(bad+" |")...), "1")...), usage)
	}
}

// P18.1: a value beside an error is none, and its status 2.
func TestNothingBesideAnError(t *testing.T) {
	for _, args := range append([]string{"", "1 /", "1 / 0", over + " + 1", "a : [", "a b", "substr a 1 " + over}, noIntegers()...) {
		l := words(args)
		if got := eval(l...); strings.Contains(got, "not alone") {
			t.Errorf("%q: %s", args, got)
		}
	}
}
