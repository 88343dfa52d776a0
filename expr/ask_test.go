package expr_test

import (
	"slices"
	"strings"
	"testing"

	"tinsel/api"
	"tinsel/fault"
)

// Words that look like operators, brackets, or neither.
var looks = []string{"", "a", "0", "!", "(", ")", "-a", "-o", "=", "!=", "<", "-eq", "-nt", "-n", "-z", "-d", "-t"}

// binaries: all binary operators.
func binaries() []string {
	return list("=", "==", "!=", "<", ">", "-eq", "-ne", "-lt", "-le", "-gt", "-ge", "-nt", "-ot", "-ef")
}

// unaries: all unary operators.
func unaries() []string {
	return list("-n", "-z", "-t", "-e", "-f", "-d", "-p", "-h", "-L", "-s", "-r", "-w", "-x", "-u", "-g", "-k", "-O", "-G", "-b", "-c", "-S")
}

// noOperators: words that look like some.
func noOperators() []string {
	return list("", "a", "x", "===", "!==", "=!", "<=", ">=", "-EQ", "-eqq", "eq", "-N", "-F", "--n", "-i", "-q", "-", "--", "n", "-ne ", " =", "-ntx", "-an", "-and", "-or", "-not", "|", "&", "+", ":")
}

// P18.2: no words: false; one: is it not empty?
func TestNoneAndOne(t *testing.T) {
	g := gate(t)
	told(t, "nil", test(g), "false")
	told(t, "empty", test(g, []string{}...), "false")
	told(t, "the empty word", test(g, ""), "false")
	for _, word := range slices.Concat(looks[1:], binaries(), unaries(), noOperators()[1:], list(" ", "\x00", "0", "false")) {
		told(t, word, test(g, word), "true")
	}
}

// P18.2: two words: ! ahead of one, a unary operator ahead of one, else EUSAGE.
func TestTwo(t *testing.T) {
	g := gate(t)
	for _, word := range slices.Concat(looks[1:], binaries(), unaries(), noOperators()[1:]) {
		told(t, "! "+word, test(g, "!", word), "false")
		told(t, "-n "+word, test(g, "-n", word), "true")
		told(t, "-z "+word, test(g, "-z", word), "false")
	}
	told(t, "! of the empty word", test(g, "!", ""), "true")
	told(t, "-n of the empty word", test(g, "-n", ""), "false")
	told(t, "-z of the empty word", test(g, "-z", ""), "true")
	for _, first := range slices.Concat(noOperators(), binaries(), list("(", ")", "-a", "-o")) {
		for _, second := range list("", "a", "!", "-n", "=", ")", "1") {
			told(t, first+" "+second, test(g, first, second), usage)
		}
	}
}

// P18.2: three words: a binary operator in the middle comes ahead of all else.
func TestThreeBinary(t *testing.T) {
	g := gate(t)
	for _, first := range looks {
		for _, third := range looks {
			told(t, first+" = "+third, test(g, first, "=", third), yes(first == third))
			told(t, first+" != "+third, test(g, first, "!=", third), yes(first != third))
			told(t, first+" < "+third, test(g, first, "<", third), yes(first < third))
			told(t, first+" -a "+third, test(g, first, "-a", third), yes(first != "" && third != ""))
			told(t, first+" -o "+third, test(g, first, "-o", third), yes(first != "" || third != ""))
			want := inval
			if first == "0" && third == "0" {
				want = "true"
			}
			told(t, first+" -eq "+third, test(g, first, "-eq", third), want)
			told(t, first+" -ef "+third, test(g, first, "-ef", third), "false")
		}
	}
}

// yes: as a test tells it.
func yes(so bool) string {
	if so {
		return "true"
	}
	return "false"
}

// P18.2: three words without an operator in the middle: ! and two, then brackets, else EUSAGE.
func TestThreeOthers(t *testing.T) {
	g := gate(t)
	for _, middle := range slices.Concat(noOperators(), list("!", "(", ")", "-n", "-z", "-d", "-t")) {
		told(t, "( "+middle+" )", test(g, "(", middle, ")"), yes(middle != ""))
		for _, v := range [][2]string{{"(", "a"}, {"a", ")"}, {"a", "b"}, {"-n", "a"}, {"", ""}, {")", "("}, {"-z", ")"}, {"-a", "-o"}, {"(", ""}, {"", ")"}, {"=", "="}, {"-d", "/"}} {
			told(t, strings.Join(list(v[0], middle, v[1]), " "), test(g, v[0], middle, v[1]), usage)
		}
	}
	asks(t, g, [2]string{"! -n a", "false"}, [2]string{"! -n ", "true"}, [2]string{"! -z a", "true"}, [2]string{"! ! a", "true"}, [2]string{"! ! ", "false"}, [2]string{"! -d /", "false"}, [2]string{"! -f /", "true"}, [2]string{"! -t 1", "true"}, [2]string{"! -t a", inval}, [2]string{"! -t " + over, ranges})
	allAsk(t, g, usage, "! a b", "! ( )", "! ( a", "! a )", "! ) (", "! -q a", "! + a", "!  a", "! a ")
	asks(t, g, [2]string{"! = !", "true"}, [2]string{"! = a", "false"}, [2]string{"! != !", "false"}, [2]string{"! -a !", "true"}, [2]string{"! -o ", "true"}, [2]string{"! -a ", "false"}, [2]string{"! -eq 1", inval}, [2]string{"( = )", "false"}, [2]string{"( != )", "true"}, [2]string{"( -a )", "true"}, [2]string{"( -o )", "true"}, [2]string{"( ! )", "true"}, [2]string{"( < )", "true"}, [2]string{"( -nt )", "false"}, [2]string{"-n = -n", "true"}, [2]string{"-n -a ", "false"}, [2]string{"-z -o ", "true"}, [2]string{"= = =", "true"}, [2]string{"-a -a -a", "true"}, [2]string{"-o -o -o", "true"}, [2]string{"-eq = -eq", "true"}, [2]string{"-eq -eq -eq", inval})
}

// P18.2: four words: ! and three, each as three words alone are.
func TestFourNot(t *testing.T) {
	g := gate(t)
	for _, l := range everyList(3, looks...) {
		if len(l) < 3 {
			continue
		}
		three := test(g, l...)
		want := map[string]string{"true": "false", "false": "true"}[three]
		if want == "" {
			want = three
		}
		told(t, "! "+strings.Join(l, " "), test(g, append(list("!"), l...)...), want)
	}
	asks(t, g, [2]string{"! a -a ", "true"}, [2]string{"! a -o ", "false"}, [2]string{"!  -a ", "true"}, [2]string{"!  -o a", "false"}, [2]string{"! ! = !", "false"}, [2]string{"! ( a )", "false"}, [2]string{"! (  )", "true"}, [2]string{"! ! ! a", "false"}, [2]string{"! ! -n a", "true"}, [2]string{"! 1 -eq a", inval})
}

// P18.2: four words: brackets around two.
func TestFourBrackets(t *testing.T) {
	g := gate(t)
	for _, l := range everyList(2, looks...) {
		if len(l) == 2 {
			told(t, "( "+strings.Join(l, " ")+" )", test(g, "(", l[0], l[1], ")"), test(g, l...))
		}
	}
	asks(t, g, [2]string{"( ! a )", "false"}, [2]string{"( ! )  )", usage}, [2]string{"( -n a )", "true"}, [2]string{"( -z a )", "false"}, [2]string{"( -d / )", "true"}, [2]string{"( -t x )", inval}, [2]string{"( a b )", usage}, [2]string{"( -n ) )", "true"}, [2]string{"( ! ( )", "false"})
}

// P18.2: four words of other kinds: by the grammar.
func TestFourOthers(t *testing.T) {
	g := gate(t)
	asks(t, g, [2]string{"-n a -a b", "true"}, [2]string{"-n a -a ", "false"}, [2]string{"-z a -o b", "true"}, [2]string{"-z a -o ", "false"}, [2]string{"a -a -n b", "true"}, [2]string{"a -a -z b", "false"}, [2]string{" -o -z b", "false"}, [2]string{"a -a ! b", "false"}, [2]string{"a -a ! ", "true"}, [2]string{" -o ! ", "true"}, [2]string{"-d / -a b", "true"}, [2]string{"a -o -t x", inval})
	allAsk(t, g, usage, "a b c d", "a = b c", "a -a b c", "a -a b -a", "a b -a c", "( a b c", "a b c )", "( a -a b", "a = = b", "-n a b c", "-n a = b", "-n -n a b", "a -o -a -o", "= = = =", ") ) ) )", "a -a b )", "a -a ( b", "a ( b )", "( a ) b", "( a ) -a")
}

// P18.2: the grammar: -a binds more than -o, ! more than -a, all is reckoned.
func TestGrammar(t *testing.T) {
	g := gate(t)
	for _, l := range everyList(3, "", "x") {
		if len(l) < 3 {
			continue
		}
		a, b, c := l[0] != "", l[1] != "", l[2] != ""
		for _, v := range []struct {
			words string
			want  bool
		}{
			{"1 -a 2 -a 3", a && b && c}, {"1 -o 2 -o 3", a || b || c}, {"1 -a 2 -o 3", a && b || c}, {"1 -o 2 -a 3", a || b && c}, {"( 1 -o 2 ) -a 3", (a || b) && c}, {"1 -a ( 2 -o 3 )", a && (b || c)}, {"( 1 -a 2 ) -o 3", a && b || c}, {"1 -o ( 2 -a 3 )", a || b && c},
			{"! 1 -a 2 -a 3", !a && b && c}, {"! 1 -o 2 -a 3", !a || b && c}, {"1 -a ! 2 -o 3", a && !b || c}, {"1 -o ! 2 -a ! 3", a || !b && !c}, {"! ( 1 -o 2 ) -a 3", !(a || b) && c}, {"! ( 1 -a 2 -a 3 )", !(a && b && c)}, {"! ! 1 -a 2 -a 3", a && b && c}, {"! ! ! 1 -a 2 -a 3", !a && b && c},
			{"-n 1 -a -n 2 -a -n 3", a && b && c}, {"-z 1 -o -n 2 -a -z 3", !a || b && !c}, {"! -n 1 -a 2 -a 3", !a && b && c}, {"1 = 2 -a 2 = 3", a == b && b == c}, {"1 != 2 -o 2 = 3", a != b || b == c}, {"! 1 = 2 -a 3", a != b && c}, {"1 -a 2 = 3", a && b == c}, {"1 = 2 -a 3", a == b && c}, {"( ( 1 -a 2 ) -o ! ( 3 ) )", a && b || !c}, {"( 1 ) -a ( 2 ) -a ( 3 )", a && b && c}, {"1 < 2 -o 2 > 3", l[0] < l[1] || l[1] > l[2]},
		} {
			var args []string
			for _, word := range words(v.words) {
				if i := strings.Index("123", word); len(word) == 1 && i >= 0 {
					word = l[i]
				}
				args = append(args, word)
			}
			told(t, strings.Join(args, " "), test(g, args...), yes(v.want))
		}
	}
}

// P18.2: of the forms of a part the first one that applies: a binary operator, brackets, a unary one, a word alone.
func TestFirstForm(t *testing.T) {
	g := gate(t)
	asks(t, g,
		[2]string{"x -a ( = (", "true"}, [2]string{"x -a ( = )", "false"}, [2]string{"x -a -n = -n", "true"}, [2]string{"x -a -n = x", "false"}, [2]string{"x -a -z = x", "false"}, [2]string{"x -a -d != /", "true"}, [2]string{"x -a -eq = -eq", "true"}, [2]string{"x -a = = =", "true"}, [2]string{"x -a -a = -a", "true"}, [2]string{"x -a -o = -o", "true"}, [2]string{"x -a ) = )", "true"}, [2]string{"x -a -t -eq 1", inval}, [2]string{"x -a ( -eq 1", inval},
		[2]string{"( ( = ( )", "true"}, [2]string{"( ) = ) )", "true"}, [2]string{"( ( x ) )", "true"}, [2]string{"( ( (  ) ) )", "false"}, [2]string{"( ! ! x )", "true"}, [2]string{"( ! -n x )", "false"}, [2]string{"( x -a ( x ) )", "true"},
		[2]string{"x -a -n -a x", usage}, [2]string{"x -a -n -a", "true"}, [2]string{"x -a -z -a", "false"}, [2]string{"x -a -n ) -a x", "true"}, [2]string{"x -a -z ( -a x", "false"}, [2]string{"-n -n -a x -a x", "true"}, [2]string{"-z -z -o  -o ", "false"}, [2]string{"-d -d -o x -a x", "true"},
		[2]string{"x -a -n -o x -a ", usage}, [2]string{"x -a x -a -n", "true"}, [2]string{"x -a x -a -a", "true"}, [2]string{"x -a x -a =", "true"}, [2]string{"x -a x -a )", "true"}, [2]string{"-a -a x -a x", "true"}, [2]string{"-o -o -o -o -o", "true"}, [2]string{"-a -a -a -a -a", "true"}, [2]string{") -a ) -a )", "true"}, [2]string{"= -a = -a =", "true"}, [2]string{"x -a -q -a x", "true"},
	)
	allAsk(t, g, usage, "a b c d e", "x -a x -a", "x -a x x -a x", "( x -a x", "x -a x )", "( x ) ( x )", "( x ) x x", "( ) -a x -a", "x -a ( ) -a x", "x -a x -q x", "x = x = x", "x = x x = x", "-n x -n x -n x", "( ( ( ( (", "-a x -a x -a", "-n -a -n -a -n x", "x -a -b -c -d", "x -a x = x x", "x -eq x -eq x", "-d / / -d /")
}

// P18.2: all is reckoned, from the left: the first error is told.
func TestErrorsOfNumbers(t *testing.T) {
	g := gate(t)
	bad := map[string]string{"a -eq 1": inval, "1 -lt b": inval, "-t x": inval, over + " -ge 1": ranges, "0 -ne -" + over: ranges, "-t " + over: ranges, "1 -gt ": inval, " -le 1": inval}
	for one, e := range bad {
		for _, other := range list("x", "", "1 -eq 1", "1 -eq 2", "-n x", "-z x", "! x", "( x )", "-d /", "-e /no") {
			for _, op := range list("-a", "-o") {
				allAsk(t, g, e, one+" "+op+" "+other, other+" "+op+" "+one, "( "+one+" ) "+op+" "+other, other+" "+op+" ! "+one, other+" "+op+" ( "+one+" )", "x "+op+" "+other+" "+op+" "+one, " "+op+" "+one+" "+op+" x")
			}
		}
		for two, e2 := range bad {
			for _, op := range list("-a", "-o") {
				told(t, one+op+two, test(g, words(one+" "+op+" "+two)...), e)
				told(t, two+op+one, test(g, words("! ( "+two+" ) "+op+" ! ! "+one)...), e2)
			}
		}
		for _, end := range list(" x", " )", " -a", " -o", " -a ( x", " x -a x", " -o x x") {
			told(t, one+end, test(g, words(one+" -a x"+end)...), usage)
		}
	}
}

// P18.2: each operator of numbers, and of texts.
func TestBinaryOperators(t *testing.T) {
	g := gate(t)
	numbers := [][3]string{{"1", "1", "100101"}, {"1", "01", "100101"}, {"-0", "000", "100101"}, {"1", "2", "011100"}, {"10", "9", "010011"}, {"-1", "1", "011100"}, {"-1", "-2", "010011"}, {most, "-" + most, "010011"}, {"-" + most, most, "011100"}, {most, most, "100101"}, {"999999999999999998", most, "011100"}, {"007", "7", "100101"}}
	for _, v := range numbers {
		for i, op := range list("-eq", "-ne", "-lt", "-le", "-gt", "-ge") {
			told(t, v[0]+op+v[1], test(g, v[0], op, v[1]), yes(v[2][i] == '1'))
		}
	}
	for _, v := range [][3]string{{"a", "a", "11000"}, {"", "", "11000"}, {"a", "b", "00110"}, {"b", "a", "00101"}, {"", "a", "00110"}, {"10", "9", "00110"}, {"1", "01", "00101"}, {"a", "A", "00101"}, {"\x7f", "\x80", "00110"}, {"\xff", "a", "00101"}, {"a", "a\x00", "00110"}, {"-n", "-z", "00110"}, {over, over, "11000"}} {
		for i, op := range list("=", "==", "!=", "<", ">") {
			told(t, v[0]+op+v[1], test(g, v[0], op, v[1]), yes(v[2][i] == '1'))
		}
	}
}

// P18.2: numbers that are none, or too great, on either side; the left one is told.
func TestNumbersThatAreNone(t *testing.T) {
	g := gate(t)
	for _, op := range list("-eq", "-ne", "-lt", "-le", "-gt", "-ge") {
		for _, no := range noIntegers() {
			for _, other := range append(list("0", "-5", most), noIntegers()...) {
				told(t, no+op+other, test(g, no, op, other), inval)
				told(t, other+op+no, test(g, other, op, no), inval)
			}
			for _, far := range tooGreat() {
				told(t, no+op+far, test(g, no, op, far), inval)
			}
		}
		for _, far := range tooGreat() {
			for _, other := range list("0", "-5", most, far) {
				told(t, far+op+other, test(g, far, op, other), ranges)
				told(t, other+op+far, test(g, other, op, far), ranges)
			}
		}
	}
}

// P18.2: MaxWords words, and one more.
func TestMaxWordsOfTest(t *testing.T) {
	g := gate(t)
	ands := repeated(api.MaxWords, "x", "-a")[:api.MaxWords-1]
	told(t, "ands", test(g, ands...), "true")
	told(t, "! ahead of them", test(g, append(list("!"), ands...)...), "false")
	told(t, "two more", test(g, append(slices.Clone(ands), "-a", "x")...), usage)
	told(t, "ors", test(g, append(repeated(2047, "", "-o"), "-n", "x")...), "true")
	told(t, "ors of nothing", test(g, append(repeated(2047, "", "-o"), "-n", "")...), "false")
	told(t, "nots", test(g, append(repeated(api.MaxWords-1, "!"), "x")...), "false")
	told(t, "one more not", test(g, append(repeated(api.MaxWords, "!"), "x")...), usage)
	told(t, "nots of nothing", test(g, append(repeated(api.MaxWords-1, "!"), "")...), "true")
	told(t, "brackets", test(g, slices.Concat(repeated(2047, "("), list("-z", "x"), repeated(2047, ")"))...), "false")
	told(t, "one more bracket each", test(g, slices.Concat(repeated(2048, "("), list("-z", "x"), repeated(2048, ")"))...), usage)
	told(t, "brackets alone", test(g, repeated(api.MaxWords, "(")...), usage)
	told(t, "words alone", test(g, repeated(api.MaxWords+1, "x")...), usage)
	told(t, "an error ahead of words too many", test(g, append(list("a", "-eq", "1"), repeated(2047, "-a", "x")...)...), usage)
	told(t, "an error in all that may be", test(g, append(list("!", "a", "-eq", "1"), repeated(2046, "-a", "x")...)...), inval)
}

// P18.2, R5: a gate that no call made: EFAULT, whatever the words are.
func TestNoGate(t *testing.T) {
	for what, g := range map[string]*fault.Gate{"nil": nil, "zero": {}, "of no process": fault.New(nil)} {
		for _, s := range list("", "x", "! x", "-d /", "a b", "a -eq 1", "x = x", "-t 1", "( x )", "a b c d e", strings.Repeat("x ", api.MaxWords+5)) {
			told(t, what+": "+s, test(g, words(s)...), efault)
		}
	}
}
