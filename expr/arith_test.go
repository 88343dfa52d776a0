package expr_test

import (
	"fmt"
	"math/big"
	"math/rand"
	"strings"
	"testing"
)

// nothings: nothing's texts of every form.
func nothings() []string {
	return list("", "0", "-0", "00", "000", "-00", "-000", strings.Repeat("0", 100), "-"+strings.Repeat("0", 100))
}

// somethings: texts that look like nothing's, and others.
func somethings() []string {
	return append(list("1", "-1", "01", "a", "-", " ", " 0", "0 ", "+0", "--0", "0x0", "0.0", "0-", "00a", "\x00", "٠", "x", "10", "-a", over, "-"+over), tooGreat()...)
}

// P18.1: | and & of nothing's texts of every form, and of others.
func TestOrAnd(t *testing.T) {
	for _, none := range nothings() {
		for _, other := range nothings() {
			told(t, "none | none", eval("+", none, "|", "+", other), "0")
			told(t, "none & none", eval("+", none, "&", "+", other), "0")
		}
		for _, some := range somethings() {
			told(t, none+" | "+some, eval("+", none, "|", "+", some), some)
			told(t, some+" | "+none, eval("+", some, "|", "+", none), some)
			told(t, none+" & "+some, eval("+", none, "&", "+", some), "0")
			told(t, some+" & "+none, eval("+", some, "&", "+", none), "0")
		}
	}
	for _, one := range somethings() {
		for _, other := range somethings() {
			told(t, one+" | "+other, eval("+", one, "|", "+", other), one)
			told(t, one+" & "+other, eval("+", one, "&", "+", other), one)
		}
	}
}

// P18.1: a value that was reckoned keeps how it was written, where no number is asked for.
func TestValueIsTheWord(t *testing.T) {
	evals(t, [2]string{"007 | 1", "007"}, [2]string{"-00 | 0", "0"}, [2]string{"007 & 1", "007"}, [2]string{"( 007 )", "007"}, [2]string{"+ 007", "007"}, [2]string{"007 + 0", "7"}, [2]string{"-0 + 0", "0"}, [2]string{"-000 * 1", "0"}, [2]string{"-007 - 0", "-7"}, [2]string{"-0 - 0", "0"}, [2]string{"0 * -5", "0"}, [2]string{"-1 / 2", "0"}, [2]string{"-4 % 2", "0"})
}

// six: what = != < <= > >= tell of two texts.
func six(t *testing.T, a, b string) string {
	t.Helper()
	s := ""
	for _, op := range levels[2] {
		s += eval("+", a, op, "+", b)
	}
	return s
}

// What the six tell of two that are less, the same, or greater.
const (
	less    = "011100"
	alike   = "100101"
	greater = "010011"
)

// P18.1: integers' texts are compared by value.
func TestByValue(t *testing.T) {
	for _, v := range [][3]string{
		{"1", "2", less}, {"2", "10", less}, {"10", "9", greater}, {"-1", "0", less}, {"-2", "-1", less}, {"-10", "-9", less}, {"-1", "-10", greater}, {"0", "-1", greater}, {"-5", "3", less}, {"3", "-5", greater},
		{"1", "01", alike}, {"1", "0001", alike}, {"-1", "-01", alike}, {"0", "-0", alike}, {"000", "-00", alike}, {"100", "0100", alike}, {"9", "010", less},
		{most, most, alike}, {"-" + most, most, less}, {most, "-" + most, greater}, {most, "0" + most, alike}, {"999999999999999998", most, less}, {"-" + most, "-999999999999999998", less}, {"-" + most, "-0" + most, alike},
	} {
		told(t, v[0]+" and "+v[1], six(t, v[0], v[1]), v[2])
	}
}

// P18.1: others byte by byte, if just one is no integer's text.
func TestByBytes(t *testing.T) {
	for _, v := range [][3]string{
		{"a", "b", less}, {"b", "a", greater}, {"a", "a", alike}, {"", "", alike}, {"", "a", less}, {"a", "", greater}, {"a", "aa", less}, {"aa", "a", greater}, {"ab", "b", less}, {"B", "a", less}, {"Z", "_", less}, {"", "0", less}, {"0", "", greater}, {"", "-0", less},
		{"10", "9a", less}, {"9a", "10", greater}, {"2", "10x", greater}, {"1", "01 ", greater}, {"1", "1 ", less}, {"-1", "-", greater}, {"+1", "1", less}, {" 1", "1", less}, {"1.0", "1", greater}, {"-1", "a", less}, {"-", "-", alike}, {"0x10", "16", less},
		{"\x7f", "\x80", less}, {"\xff", "\x7f", greater}, {"\xff", "a", greater}, {"\x80", "\xff", less}, {"\xc3\xa9", "\xc3\xa8", greater}, {"é", "z", greater}, {"\x00", "", greater}, {"\x00", "\x01", less}, {"a\x00", "a", greater}, {"a\x00b", "a\x00c", less}, {"a\xff", "b", less}, {"\xff", "\xff", alike}, {"\xff\x00", "\xff", greater},
	} {
		told(t, fmt.Sprintf("%q and %q", v[0], v[1]), six(t, v[0], v[1]), v[2])
	}
}

// P18.1: every two single bytes.
func TestByBytesAll(t *testing.T) {
	for a := range 256 {
		for b := range 256 {
			want := alike
			if a < b {
				want = less
			} else if a > b {
				want = greater
			}
			told(t, fmt.Sprintf("bytes %d and %d", a, b), six(t, string([]byte{byte(a)}), string([]byte{byte(b)})), want)
			if t.Failed() {
				return
			}
		}
	}
}

// P18.1: of two integers' texts one that is too great is ERANGE; beside a text that is none it is a text.
func TestTooGreatCompared(t *testing.T) {
	for _, op := range levels[2] {
		for _, far := range tooGreat() {
			for _, other := range list("0", "-7", most, far) {
				told(t, far+op+other, eval(far, op, other), ranges)
				told(t, other+op+far, eval(other, op, far), ranges)
			}
		}
	}
	told(t, "beside a text", six(t, over, "a"), less)
	told(t, "beside a text", six(t, "a", over), greater)
}

// five: what + - * / % tell of two texts.
func five(a, b string) string {
	var l []string
	for _, op := range list("+", "-", "*", "/", "%") {
		l = append(l, eval("+", a, op, "+", b))
	}
	return strings.Join(l, " ")
}

// P18.1: sums, differences, products, quotients and what is left, with every pair of signs.
func TestArithmetic(t *testing.T) {
	for _, v := range [][3]string{
		{"7", "3", "10 4 21 2 1"}, {"-7", "3", "-4 -10 -21 -2 -1"}, {"7", "-3", "4 10 -21 -2 1"}, {"-7", "-3", "-10 -4 21 2 -1"},
		{"3", "7", "10 -4 21 0 3"}, {"-3", "7", "4 -10 -21 0 -3"}, {"3", "-7", "-4 10 -21 0 3"}, {"-3", "-7", "-10 4 21 0 -3"},
		{"6", "3", "9 3 18 2 0"}, {"-6", "3", "-3 -9 -18 -2 0"}, {"6", "-3", "3 9 -18 -2 0"}, {"-6", "-3", "-9 -3 18 2 0"},
		{"0", "5", "5 -5 0 0 0"}, {"0", "-5", "-5 5 0 0 0"}, {"-0", "05", "5 -5 0 0 0"}, {"1", "1", "2 0 1 1 0"}, {"-1", "1", "0 -2 -1 -1 0"},
		{"007", "-003", "4 10 -21 -2 1"}, {"0", "0", "0 0 0 error 22 error 22"}, {"5", "0", "5 5 0 error 22 error 22"}, {"-5", "-0", "-5 -5 0 error 22 error 22"}, {"5", "000", "5 5 0 error 22 error 22"},
		{most, "0", most + " " + most + " 0 error 22 error 22"}, {most, "1", "error 34 999999999999999998 " + most + " " + most + " 0"}, {"1", most, "error 34 -999999999999999998 " + most + " 0 1"},
		{"-" + most, "1", "-999999999999999998 error 34 -" + most + " -" + most + " 0"}, {most, "-1", "999999999999999998 error 34 -" + most + " -" + most + " 0"}, {"-" + most, "-1", "error 34 -999999999999999998 " + most + " " + most + " 0"}, {"-1", most, "999999999999999998 error 34 -" + most + " 0 -1"},
		{most, most, "error 34 0 error 34 1 0"}, {most, "-" + most, "0 error 34 error 34 -1 0"}, {"-" + most, most, "0 error 34 error 34 -1 0"}, {"-" + most, "-" + most, "error 34 0 error 34 1 0"},
		{"999999999", "1000000001", "2000000000 -2 " + most + " 0 999999999"}, {"1000000000", "1000000000", "2000000000 0 error 34 1 0"}, {"-999999999", "1000000001", "2 -2000000000 -" + most + " 0 -999999999"}, {"-1000000000", "1000000000", "0 -2000000000 error 34 -1 0"},
		{"333333333333333333", "3", "333333333333333336 333333333333333330 " + most + " 111111111111111111 0"}, {"333333333333333333", "-3", "333333333333333330 333333333333333336 -" + most + " -111111111111111111 0"}, {"333333333333333334", "3", "333333333333333337 333333333333333331 error 34 111111111111111111 1"}, {"-3", "333333333333333334", "333333333333333331 -333333333333333337 error 34 0 -3"},
		{"500000000000000000", "499999999999999999", most + " 1 error 34 1 1"}, {"500000000000000000", "500000000000000000", "error 34 0 error 34 1 0"}, {"-500000000000000000", "500000000000000000", "0 error 34 error 34 -1 0"}, {"-500000000000000000", "499999999999999999", "-1 -" + most + " error 34 -1 -1"},
	} {
		told(t, v[0]+" and "+v[1], five(v[0], v[1]), v[2])
	}
}

// P18.1, R6: products far beyond what an int holds, such as would wrap to a small one.
func TestProductsDoNotWrap(t *testing.T) {
	for _, v := range [][2]string{
		{"4294967296", "4294967296"}, {"4294967296", "4294967297"}, {"2147483648", "8589934592"}, {most, most}, {"3037000500", "3037000500"}, {"288230376151711744", "64"}, {"576460752303423488", "32"}, {"144115188075855872", "128"}, {"6148914691236517", "3000"}, {"123456789012345678", "987654321098765432"},
	} {
		for _, a := range list(v[0], "-"+v[0]) {
			for _, b := range list(v[1], "-"+v[1]) {
				told(t, a+" * "+b, eval(a, "*", b), ranges)
				told(t, b+" * "+a, eval(b, "*", a), ranges)
				told(t, a+" * "+b+" * 0", eval(a, "*", b, "*", "0"), ranges)
			}
		}
	}
	told(t, "a sum of many", eval("500000000000000000", "+", "499999999999999999", "+", "1"), ranges)
	told(t, "a sum that comes back", eval(most, "+", "1", "-", "1"), ranges)
	told(t, "one that does not leave", eval(most, "-", "1", "+", "1"), most)
}

// P18.1: arithmetic as numbers without an end tell it.
func TestArithmeticModel(t *testing.T) {
	r := rand.New(rand.NewSource(182))
	limit, _ := new(big.Int).SetString(over, 10)
	say := func(n *big.Int) string {
		if n.CmpAbs(limit) >= 0 {
			return ranges
		}
		return n.String()
	}
	draw := func() *big.Int {
		n := big.NewInt(r.Int63n(1000000000000000000) >> r.Intn(60))
		if r.Intn(2) == 0 {
			n.Neg(n)
		}
		return n
	}
	for range 20000 {
		a, b := draw(), draw()
		want := say(new(big.Int).Add(a, b)) + " " + say(new(big.Int).Sub(a, b)) + " " + say(new(big.Int).Mul(a, b))
		if b.Sign() == 0 {
			want += " " + inval + " " + inval
		} else {
			want += " " + new(big.Int).Quo(a, b).String() + " " + new(big.Int).Rem(a, b).String()
		}
		told(t, a.String()+" and "+b.String(), five(a.String(), b.String()), want)
	}
}

// P18.1: operands that are no integers' texts, or too great ones.
func TestNoOperands(t *testing.T) {
	for _, op := range list("+", "-", "*", "/", "%") {
		for _, no := range noIntegers() {
			for _, other := range append(list("0", "1", "-5", most), noIntegers()...) {
				told(t, no+op+other, eval("+", no, op, "+", other), inval)
				told(t, other+op+no, eval("+", other, op, "+", no), inval)
			}
		}
		for _, far := range tooGreat() {
			for _, other := range list("1", "-1", most, far) {
				told(t, far+op+other, eval(far, op, other), ranges)
				told(t, other+op+far, eval(other, op, far), ranges)
			}
		}
	}
}
