package order_test

import (
	"fmt"
	"strings"
	"testing"

	"tinsel/api"
	"tinsel/order"
)

// numbered: what Number answers, as a text.
func numbered(s string) string {
	below, digits, decimals := order.Number([]byte(s))
	sign := ""
	if below {
		sign = "-"
	}
	return sign + string(digits) + "." + string(decimals)
}

// P16.1: numbers, and how far they go.
func TestNumber(t *testing.T) {
	for s, want := range map[string]string{
		"": ".", "0": ".", "00": ".", "1": "1.", "7": "7.", "10": "10.", "007": "7.", "1000": "1000.", "0100": "100.", " -007.50": "-7.5", "-7": "-7.", "-10.01": "-10.01",
		".": ".", "-": ".", "-.": ".", ".5": ".5", "-.5": "-.5", "5.": "5.", "-5.": "-5.", "0.5": ".5", "00.50": ".5", "0.0": ".", "5.0": "5.", "5.00": "5.", "5.05": "5.05", "5.050": "5.05", "5.500": "5.5", ".050": ".05", "100.001": "100.001",
		"-0": ".", "-0.0": ".", "-00.00": ".", "-.0": ".", "-0.": ".", "-0.01": "-.01", "-0.10": "-.1",
		"1.2.3": "1.2", "1..2": "1.", "..1": ".", ".1.2": ".1", "1.-2": "1.", "1.x": "1.", "1.x5": "1.", "1. 5": "1.", "1 .5": "1.", "1 5": "1.", ". 5": ".",
		" 1": "1.", "\t1": "1.", " \t 1": "1.", "   ": ".", " -1": "-1.", "\t-.5": "-.5", " .5": ".5", "1 ": "1.", "1 2": "1.",
		"--1": ".", "- 1": ".", "-\t1": ".", "-+1": ".", "+1": ".", "+-1": ".", "-x": ".", "x1": ".", "x": ".", "a 1": ".", "$1": ".", " -": ".", " - 1": ".", "1-2": "1.", "1-": "1.",
		"12x": "12.", "12e3": "12.", "0x10": ".", "1,000": "1.", "1_0": "1.", "1k": "1.", "9999999999999999999999": "9999999999999999999999.", "\n1": ".", "\v1": ".", "\r1": ".", "\x001": ".", "1\x002": "1.", "\xff": ".", "é1": ".", "\u06601": ".", "\u00a01": ".", "1\n2": "1.",
	} {
		told(t, fmt.Sprintf("Number(%q)", s), numbered(s), want)
	}
	below, digits, decimals := order.Number(nil)
	if below || len(digits)+len(decimals) != 0 {
		t.Error("Number(nil)", below, digits, decimals)
	}
}

// P16.1: there is no limit to its length.
func TestLongNumbers(t *testing.T) {
	for _, n := range []int{18, 19, 20, 100, 1000, 1 << 20} {
		noughts, nines := strings.Repeat("0", n), strings.Repeat("9", n)
		told(t, "nines", numbered("-"+noughts+nines+"."+nines+noughts), "-"+nines+"."+nines)
		told(t, "noughts", numbered(noughts+"."+noughts), ".")
		told(t, "below 0, noughts", numbered("-"+noughts+"."+noughts), ".")
		told(t, "noughts inside", numbered("1"+noughts+"."+noughts+"1"), "1"+noughts+"."+noughts+"1")
		told(t, "blanks", numbered(strings.Repeat(" \t", n)+"-1"), "-1.")
	}
}

// P16.1: each byte ahead of a number, behind its sign, behind its digits and behind its point.
func TestEachByteOfANumber(t *testing.T) {
	for c := range 256 {
		s := string([]byte{byte(c)})
		ahead, behindSign, behindDigits, behindPoint := ".", ".", "4.", "4."
		switch {
		case c == ' ' || c == '\t':
			ahead = "5."
		case c == '-':
			ahead = "-5."
		case c == '.':
			ahead, behindSign, behindDigits = ".5", "-.5", "4.5"
		case c == '0':
			ahead, behindSign, behindDigits, behindPoint = "5.", "-5.", "405.", "4.05"
		case c > '0' && c <= '9':
			ahead, behindSign, behindDigits, behindPoint = s+"5.", "-"+s+"5.", "4"+s+"5.", "4."+s+"5"
		}
		told(t, fmt.Sprintf("Number(%q)", s+"5"), numbered(s+"5"), ahead)
		told(t, fmt.Sprintf("Number(%q)", "-"+s+"5"), numbered("-"+s+"5"), behindSign)
		told(t, fmt.Sprintf("Number(%q)", "4"+s+"5"), numbered("4"+s+"5"), behindDigits)
		told(t, fmt.Sprintf("Number(%q)", "4."+s+"5"), numbered("4."+s+"5"), behindPoint)
	}
}

// Words: numbers in their order; those of one list are equal.
func TestNumbersAreCompared(t *testing.T) {
	rising := [][]string{
		{"-" + strings.Repeat("9", 100), "-0" + strings.Repeat("9", 100) + ".0"}, {"-9999999999999999999"}, {"-100", " -0100.00x"}, {"-99.9"}, {"-20"}, {"-10.5"}, {"-10", "-10."}, {"-9"}, {"-1.51"}, {"-1.5", "-1.500"}, {"-1.05"}, {"-1", "\t-01"}, {"-.5", "-0.50"}, {"-.05"},
		{"0", "", "-0", "-0.0", "x", "-", ".", "--5", "- 5", "+5", "   ", "-.x", "\n5"}, {".005"}, {".05", "0.05", "00.0500"}, {".5", "0.5"}, {".51"}, {"1", "01", "1.", "1.0", "1x", " 1", "1.-5", "1 9"}, {"1.05"}, {"1.5"}, {"1.51"}, {"2"}, {"9"}, {"10"}, {"10.5"}, {"20"}, {"99.9"}, {"100"},
		{"9223372036854775807"}, {"9223372036854775808"}, {"18446744073709551616"}, {strings.Repeat("9", 99)}, {strings.Repeat("9", 100), "00" + strings.Repeat("9", 100)}, {strings.Repeat("9", 100) + ".1"},
	}
	for i, l := range rising {
		for j, m := range rising {
			want := max(-1, min(i-j, 1))
			for _, a := range l {
				for _, b := range m {
					compares(t, a, b, by(api.KeyNumeric|api.SortStable), want)
					compares(t, a, b, by(api.KeyNumeric|api.KeyReverse|api.SortUnique), -want)
				}
			}
		}
	}
}
