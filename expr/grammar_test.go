package expr_test

import (
	"fmt"
	"slices"
	"strings"
	"testing"

	"tinsel/api"
	"tinsel/expr"
)

// Operators, by how much they bind.
var levels = [][]string{{"|"}, {"&"}, {"=", "!=", "<", "<=", ">", ">="}, {"+", "-"}, {"*", "/", "%"}, {":"}}

// operators: all of them.
func operators() []string { return slices.Concat(levels...) }

// P18.1: a word alone, and its status.
func TestWordAlone(t *testing.T) {
	for _, word := range list("a", "1", "-1", "abc def", "\x00\xff", "==", "!", "-a", "-eq", "+1", "\\", "**", "matches", "Length", "((", "[", "1.0", "00a", "-x", over, "--0", " ", " 0") {
		value, status, e := expr.Eval(list(word))
		told(t, word, fmt.Sprint(value, status, e == api.OK), fmt.Sprint(word, 0, true))
	}
	for _, word := range list("", "0", "-0", "000", "-000", strings.Repeat("0", 5000)) {
		value, status, e := expr.Eval(list(word))
		told(t, word, fmt.Sprint(value, status, e == api.OK), fmt.Sprint(word, 1, true))
	}
}

// P18.1: no words, and those that stand for something else.
func TestNoExpression(t *testing.T) {
	told(t, "nil", eval(), usage)
	told(t, "empty", eval([]string{}...), usage)
	for _, word := range append(operators(), "(", ")", "match", "substr", "index", "length") {
		told(t, word, eval(word), usage)
	}
}

// P18.1: what is missing on either side of an operator.
func TestMissingOperands(t *testing.T) {
	for _, op := range operators() {
		told(t, op, eval("1", op), usage)
		told(t, op, eval("1", op, op), usage)
		told(t, op, eval("1", op, "2", op), usage)
		told(t, op, eval("(", "1", op, ")"), usage)
		told(t, op, eval("1", op, "(", ")"), usage)
		if op != "+" {
			told(t, op, eval(op, "1"), usage)
			told(t, op, eval("1", op, op, "1"), usage)
			told(t, op, eval("(", op, "1", ")"), usage)
		}
	}
	evals(t, [2]string{"+ 1", "1"}, [2]string{"1 + + 1", "2"}, [2]string{"( + 1 )", "1"})
}

// P18.1: what is missing behind the four words, and what is one too many.
func TestFourWords(t *testing.T) {
	for _, v := range []struct {
		word, want string
		many       int
	}{{"match", "1", 2}, {"substr", "1", 3}, {"index", "1", 2}, {"length", "1", 1}} {
		for n := range 6 {
			want := usage
			if n == v.many {
				want = v.want
			}
			args := append(list(v.word), repeated(n, "1")...)
			told(t, strings.Join(args, " "), eval(args...), want)
			told(t, strings.Join(args, " ")+" in brackets", eval(slices.Concat(list("("), args, list(")"))...), want)
		}
	}
	allEval(t, usage, "length + 1 2", "length )", "length (", "length ( )", "length |", "match a", "match a :", "match : a", "match a match", "substr abc 1", "substr abc 1 *", "index a", "index = a", "length length", "length match a", "substr substr", "match length a")
	evals(t, [2]string{"length length abc", "1"}, [2]string{"length match abc a\\(.*\\)", "2"}, [2]string{"match substr abcdef 2 3 index xbc c", "0"}, [2]string{"index match abc .\\(.*\\) c", "2"}, [2]string{"substr length abcdefghijkl length a 1", "1"}, [2]string{"match ( 1 + 23 ) ( 2 )", "1"}, [2]string{"substr ( abc | x ) ( 1 + 1 ) ( 4 - 3 )", "b"})
}

// P18.1: the four words take no operators into their operands.
func TestFourWordsBindMost(t *testing.T) {
	evals(t,
		[2]string{"length a + 5", "6"}, [2]string{"length 12 * 3", "6"}, [2]string{"length abc : .", "1"}, [2]string{"5 + length a", "6"}, [2]string{"2 * length abc - 1", "5"},
		[2]string{"index abc c : 3", "1"}, [2]string{"match abc a | x", "1"}, [2]string{"substr 12345 2 2 + 1", "24"}, [2]string{"length abc = 3", "1"}, [2]string{"substr abc 1 1 = a", "1"},
		[2]string{"123 : length abc", "0"}, [2]string{"323 : length abc", "1"}, [2]string{"length ( 10 + 5 )", "2"},
	)
}

// P18.1: + ahead of any word makes it one that stands for itself.
func TestPlus(t *testing.T) {
	for _, word := range append(operators(), "(", ")", "match", "substr", "index", "length", "", "0", "abc") {
		told(t, "+ "+word, eval("+", word), word)
		told(t, "+ "+word+" as", eval("+", word, "=", "+", word), "1")
		told(t, "length + "+word, eval("length", "+", word), fmt.Sprint(len(word)))
		told(t, "( + "+word+" )", eval("(", "+", word, ")"), word)
		told(t, "index + "+word, eval("index", "+", word, "+", word), fmt.Sprint(min(1, len(word))))
		told(t, "+ "+word+" &", eval("a", "&", "+", word+"b"), "a")
		told(t, "+ + "+word, eval("+", "+", word), usage)
		told(t, "+ "+word+" )", eval("+", word, ")"), usage)
	}
	allEval(t, usage, "+", "1 + +", "( + )", "length +", "+ + +", "1 2", "+ 1 2", "+ ( 1 )")
	evals(t, [2]string{"+ + + 1", inval}, [2]string{"+ 1 + + 2", "3"}, [2]string{"+ 1 + 2", "3"}, [2]string{"substr + length + 2 + 3", "eng"})
}

// P18.1: words that are left over, and brackets that do not close, or close nothing.
func TestLeftOver(t *testing.T) {
	allEval(t, usage, "a b", "a ", " a", "1 + 2 3", "1 2 + 3", "a (", "a )", ") a", "( a", "( a ) )", "( ( a )", "( a ) b", "( a b )", "a ( b )", "( a ) ( b )", "( )", "( ) 1", "1 + ( 2", "1 + 2 )", "( 1 + 2", "1 match a a", "1 length a", "a + length", "( length ) a", "a = b c", "a : b c d", "a == a", "a ! b", "a -a b", "1 & 2 &", "(", "( (", ") )", ") (")
	evals(t, [2]string{"( a )", "a"}, [2]string{"( ( ( a ) ) )", "a"}, [2]string{"( 1 + 2 ) * 3", "9"}, [2]string{"3 * ( 1 + 2 )", "9"}, [2]string{"( )a )", ")a"}, [2]string{"(  )", ""}, [2]string{"( + ( )", "("}, [2]string{"( + ) )", ")"})
}

// P18.1: all operators go from the left.
func TestFromTheLeft(t *testing.T) {
	evals(t,
		[2]string{"10 - 3 - 2", "5"}, [2]string{"10 - ( 3 - 2 )", "9"}, [2]string{"10 - 3 + 2", "9"}, [2]string{"10 + 3 - 2", "11"},
		[2]string{"100 / 10 / 2", "5"}, [2]string{"100 / ( 10 / 2 )", "20"}, [2]string{"7 / 2 * 2", "6"}, [2]string{"2 * 7 / 2", "7"}, [2]string{"17 % 10 % 4", "3"}, [2]string{"17 % 10 * 2", "14"}, [2]string{"2 * 17 % 10", "4"}, [2]string{"20 / 7 % 2", "0"},
		[2]string{"1 < 2 < 1", "0"}, [2]string{"3 > 2 > 1", "0"}, [2]string{"3 > ( 2 > 1 )", "1"}, [2]string{"2 = 2 = 1", "1"}, [2]string{"2 = 2 = 2", "0"}, [2]string{"5 != 5 != 0", "0"}, [2]string{"5 <= 5 <= 0", "0"}, [2]string{"0 >= 5 >= 0", "1"}, [2]string{"0 >= ( 5 >= 0 )", "0"}, [2]string{"5 = 3 < 1", "1"}, [2]string{"5 = ( 3 < 1 )", "0"}, [2]string{"5 >= 5 != 5", "1"},
		[2]string{"a | b | c", "a"}, [2]string{"0 | 0 | c", "c"}, [2]string{"a & b & c", "a"}, [2]string{"a & b & 0", "0"}, [2]string{"a & 0 & c", "0"},
		[2]string{"abc : \\(.*\\) : b", "0"}, [2]string{"abc : .\\(.*\\) : b\\(.*\\)", "c"}, [2]string{"abc : .* : 3", "1"}, [2]string{"abc : ( .* : 3 )", "0"},
	)
}

// P18.1: what binds more is reckoned ahead of what binds less, on either side of it.
func TestOrderOfOperators(t *testing.T) {
	evals(t,
		[2]string{"2 + 3 * 4", "14"}, [2]string{"2 * 3 + 4", "10"}, [2]string{"( 2 + 3 ) * 4", "20"}, [2]string{"20 - 7 / 2", "17"}, [2]string{"20 - 7 % 2", "19"}, [2]string{"7 % 2 - 20", "-19"},
		[2]string{"0 | 1 & 0", "0"}, [2]string{"2 | 1 & 0", "2"}, [2]string{"1 & 0 | 3", "3"}, [2]string{"2 & ( 0 | 3 )", "2"}, [2]string{"0 & ( 0 | 3 )", "0"}, [2]string{"0 & 0 | 3", "3"},
		[2]string{"2 & 1 = 1", "2"}, [2]string{"( 2 & 1 ) = 1", "0"}, [2]string{"1 = 1 & 2", "1"}, [2]string{"1 = ( 1 & 2 )", "1"}, [2]string{"5 = 5 & 2", "1"}, [2]string{"5 = ( 5 & 2 )", "1"}, [2]string{"2 > 3 & 4", "0"}, [2]string{"2 < 3 | 0", "1"}, [2]string{"9 | 1 < 0", "9"}, [2]string{"( 9 | 1 ) < 0", "0"},
		[2]string{"1 + 1 = 2", "1"}, [2]string{"2 = 1 + 1", "1"}, [2]string{"1 < 1 + 1", "1"}, [2]string{"( 2 = 1 ) + 1", "1"}, [2]string{"5 - 2 > 2", "1"}, [2]string{"5 - ( 2 > 2 )", "5"}, [2]string{"2 <= 7 / 3", "1"}, [2]string{"8 % 3 != 2", "0"},
		[2]string{"3 + 12 : 1", "4"}, [2]string{"( 3 + 12 ) : 1", "1"}, [2]string{"2 * 33 : 3*", "4"}, [2]string{"12 : .\\(.\\) * 5", "10"}, [2]string{"12 : .\\(.\\) + 5", "7"}, [2]string{"12 : 1 = 1", "1"}, [2]string{"1 = 12 : 1", "1"}, [2]string{"0 | ab : .", "1"}, [2]string{"ab : x | c", "c"}, [2]string{"ab : . & c", "1"}, [2]string{"7 % 44 : .*", "1"}, [2]string{"7 / 44 : .*", "3"}, [2]string{"9 - 44 : .*", "7"},
	)
}

// P18.1: of each two operators the one that binds more goes first; of those that bind alike the left one.
func TestEachAgainstEach(t *testing.T) {
	operands := list("0", "1", "2", "3", "7", "12", "-5", "a", "")
	for i, first := range operators() {
		for j, second := range operators() {
			for k, x := range operands {
				for n, y := range operands {
					z := operands[(i+2*j+3*k+5*n)%len(operands)]
					left := eval("(", x, first, y, ")", second, z)
					right := eval(x, first, "(", y, second, z, ")")
					want := left
					if levelOf(second) > levelOf(first) {
						want = right
					}
					told(t, strings.Join(list(x, first, y, second, z), " "), eval(x, first, y, second, z), want)
				}
			}
		}
	}
}

// levelOf: how much an operator binds.
func levelOf(op string) int {
	return slices.IndexFunc(levels, func(l []string) bool { return slices.Contains(l, op) })
}

// P18.1: MaxWords words, and one more.
func TestMaxWords(t *testing.T) {
	sum := repeated(api.MaxWords, "1", "+")[:api.MaxWords-1]
	told(t, "a sum", eval(sum...), "2048")
	told(t, "a sum that lacks a word", eval(append(slices.Clone(sum), "+")...), usage)
	told(t, "a word too many", eval(append(slices.Clone(sum), "1")...), usage)
	told(t, "one more in all", eval(append(slices.Clone(sum), "+", "1")...), usage)
	deep := slices.Concat(repeated(2047, "("), list("+", "x"), repeated(2047, ")"))
	told(t, "brackets", eval(deep...), "x")
	told(t, "one more bracket each", eval(slices.Concat(list("("), deep, list(")"))...), usage)
	long := append(repeated(api.MaxWords-1, "length"), "x")
	told(t, "lengths", eval(long...), "1")
	told(t, "one more length", eval(append(list("length"), long...)...), usage)
	told(t, "words alone", eval(repeated(api.MaxWords+1, "x")...), usage)
	told(t, "brackets alone", eval(repeated(api.MaxWords, "(")...), usage)
	told(t, "the four words alone", eval(repeated(api.MaxWords, "substr")...), usage)
	told(t, "matches ahead", eval(slices.Concat(list("length"), repeated(2047, "match"), list("x"), repeated(2047, "."))...), "1")
	told(t, "matches behind", eval(slices.Concat(list("length"), repeated(2047, "match", "1"), list("1"))...), "1")
}

// P18.1: words are of any length.
func TestLongWords(t *testing.T) {
	long := strings.Repeat("ab", 50000)
	told(t, "alone", eval(long), long)
	told(t, "length", eval("length", long), "100000")
	told(t, "substr", eval("substr", long, "99999", "5"), "ab")
	told(t, "match", eval(long, ":", "[ab]*"), "100000")
	told(t, "index", eval("index", long+"c", "xyzc"), "100001")
	told(t, "=", eval(long, "=", long), "1")
	told(t, "<", eval(long, "<", long+"a"), "1")
}
