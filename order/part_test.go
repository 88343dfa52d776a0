package order_test

import (
	"fmt"
	"math"
	"strings"
	"testing"

	"tinsel/api"
	"tinsel/order"
)

// parts: what Part tells of a line by a key's five numbers.
func parts(t *testing.T, line string, sep byte, field, char, endField, endChar, flags int, want string) {
	t.Helper()
	k := api.Key{Field: field, Char: char, EndField: endField, EndChar: endChar, Flags: flags}
	told(t, fmt.Sprintf("Part(%q, %v, %q)", line, k, sep), string(order.Part([]byte(line), k, sep)), want)
}

// fields: each one of a line, from the first one on, as keys tell them.
func fields(line string, sep byte, n int) string {
	var l []string
	for i := 1; i <= n; i++ {
		l = append(l, string(order.Part([]byte(line), api.Key{Field: i, Char: 1, EndField: i}, sep)))
	}
	return strings.Join(l, "|")
}

// P16.1: fields with Sep 0: the blanks ahead of a word are its field's.
func TestFieldsByBlanks(t *testing.T) {
	for line, want := range map[string]string{
		"": "||||", "a": "a||||", "a bc d": "a| bc| d||", " a": " a||||", "  a  b": "  a|  b|||", "a ": "a| |||", "a  ": "a|  |||", " ": " ||||", "   ": "   ||||", "\t \t": "\t \t||||", " a ": " a| |||",
		"a\tb": "a|\tb|||", "a \tb\t c": "a| \tb|\t c||", "a\nb c\rd\ve\ff": "a\nb| c\rd\ve\ff|||", "a\x00b \xff": "a\x00b| \xff|||", "a b c d e": "a| b| c| d| e", "a b c d e f": "a| b| c| d| e", "a\u00a0b": "a\u00a0b||||",
	} {
		told(t, fmt.Sprintf("fields of %q", line), fields(line, 0, 5), want)
	}
}

// P16.1: fields with a Sep: one more than there are Seps.
func TestFieldsBySep(t *testing.T) {
	for line, want := range map[string]string{
		"": "||||", ":": "||||", "a": "a||||", "a:b": "a|b|||", ":a": "|a|||", "a:": "a||||", ":a:": "|a|||", "a::b": "a||b||", "::a": "||a||", "a b:c d": "a b|c d|||", " a : b ": " a | b |||", "a:b:c:d:e:f": "a|b|c|d|e", ":::x": "|||x|",
	} {
		told(t, fmt.Sprintf("fields of %q", line), fields(line, ':', 5), want)
	}
	told(t, "by blanks", fields(" a  b\tc", ' ', 5), "|a||b\tc|")
	told(t, "by tabs", fields("\ta \t\tb", '\t', 5), "|a ||b|")
	told(t, "by line feeds", fields("a\nb", '\n', 3), "a|b|")
	for c := 1; c < 256; c++ {
		s := string([]byte{byte(c)})
		if s != "x" && s != "y" {
			told(t, fmt.Sprint("by byte ", c), fields("x"+s+"y"+s+s+"x", byte(c), 5), "x|y||x|")
		}
	}
}

// P16.1: with Sep 0 only space and tab part fields.
func TestBlanksAlone(t *testing.T) {
	for c := range 256 {
		s, want := string([]byte{byte(c)}), ""
		if c == ' ' || c == '\t' {
			want = s + "y"
		}
		parts(t, "x"+s+"y", 0, 2, 1, 0, 0, 0, want)
	}
}

// P16.1: from a byte of a field on.
func TestPartBegins(t *testing.T) {
	const line = "ab cd ef"
	parts(t, line, 0, 1, 1, 0, 0, 0, line)
	parts(t, line, 0, 1, 2, 0, 0, 0, "b cd ef")
	parts(t, line, 0, 1, 3, 0, 0, 0, " cd ef") // behind the field's end it counts on
	parts(t, line, 0, 1, 5, 0, 0, 0, "d ef")
	parts(t, line, 0, 1, 8, 0, 0, 0, "f")
	parts(t, line, 0, 1, 9, 0, 0, 0, "")
	parts(t, line, 0, 1, 10, 0, 0, 0, "")
	parts(t, line, 0, 2, 1, 0, 0, 0, " cd ef")
	parts(t, line, 0, 2, 2, 0, 0, 0, "cd ef")
	parts(t, line, 0, 2, 4, 0, 0, 0, " ef")
	parts(t, line, 0, 3, 1, 0, 0, 0, " ef")
	parts(t, line, 0, 3, 3, 0, 0, 0, "f")
	parts(t, line, 0, 3, 4, 0, 0, 0, "")
	parts(t, line, 0, 4, 1, 0, 0, 0, "")
	parts(t, line, 0, 4, 9, 0, 0, 0, "")
	parts(t, "ab:cd:ef", ':', 2, 1, 0, 0, 0, "cd:ef")
	parts(t, "ab:cd:ef", ':', 2, 3, 0, 0, 0, ":ef")
	parts(t, "ab:cd:ef", ':', 2, 4, 0, 0, 0, "ef")
	parts(t, "ab:cd:ef", ':', 4, 1, 0, 0, 0, "")
	parts(t, "ab:cd:", ':', 3, 1, 0, 0, 0, "")
}

// P16.1: up to a byte of a field, that one, too.
func TestPartEnds(t *testing.T) {
	const line = "ab cd ef"
	parts(t, line, 0, 1, 1, 1, 0, 0, "ab")
	parts(t, line, 0, 1, 1, 1, 1, 0, "a")
	parts(t, line, 0, 1, 1, 1, 2, 0, "ab")
	parts(t, line, 0, 1, 1, 1, 3, 0, "ab ")
	parts(t, line, 0, 1, 1, 1, 4, 0, "ab c")
	parts(t, line, 0, 1, 1, 1, 8, 0, line)
	parts(t, line, 0, 1, 1, 1, 9, 0, line)
	parts(t, line, 0, 1, 1, 2, 0, 0, "ab cd")
	parts(t, line, 0, 1, 1, 2, 1, 0, "ab ")
	parts(t, line, 0, 1, 2, 2, 2, 0, "b c")
	parts(t, line, 0, 1, 1, 3, 0, 0, line)
	parts(t, line, 0, 1, 1, 4, 0, 0, line)
	parts(t, line, 0, 1, 1, 4, 1, 0, line)
	parts(t, line, 0, 1, 1, 0, 1, 0, line) // EndField 0: whatever EndChar is
	parts(t, line, 0, 2, 2, 0, 1, 0, "cd ef")
	parts(t, line, 0, 2, 2, 2, 2, 0, "c")
	parts(t, line, 0, 2, 2, 2, 1, 0, "") // the end is ahead of the beginning
	parts(t, line, 0, 2, 3, 2, 1, 0, "")
	parts(t, line, 0, 3, 1, 2, 0, 0, "")
	parts(t, line, 0, 3, 1, 1, 0, 0, "")
	parts(t, line, 0, 3, 1, 1, 1, 0, "")
	parts(t, line, 0, 3, 1, 1, 8, 0, " ef")
	parts(t, line, 0, 1, 4, 1, 0, 0, "") // beyond the field, which ends ahead of it
	parts(t, line, 0, 4, 1, 3, 0, 0, "")
	parts(t, line, 0, 9, 9, 9, 9, 0, "")
	parts(t, "ab:cd:ef", ':', 1, 1, 1, 3, 0, "ab:")
	parts(t, "ab:cd:ef", ':', 2, 1, 2, 1, 0, "c")
	parts(t, "ab:cd:ef", ':', 2, 1, 3, 1, 0, "cd:e")
	parts(t, "ab:cd:ef", ':', 2, 1, 2, 4, 0, "cd:e")
	parts(t, "a::b", ':', 2, 1, 2, 0, 0, "")
	parts(t, "a::b", ':', 2, 1, 2, 1, 0, ":")
	parts(t, "a::b", ':', 2, 1, 3, 0, 0, ":b")
	parts(t, "a::b", ':', 1, 1, 2, 0, 0, "a:")
	parts(t, "", ':', 1, 1, 1, 0, 0, "")
	parts(t, "", 0, 1, 1, 1, 1, 0, "")
	parts(t, "  \t", 0, 1, 1, 1, 0, 0, "  \t")
	parts(t, "  \t", 0, 2, 1, 2, 0, 0, "")
	parts(t, "\x00\xff", 0, 1, 2, 1, 2, 0, "\xff")
}

// P16.1: KeyBlanks: bytes are counted behind a field's leading blanks, at both ends.
func TestPartBlanks(t *testing.T) {
	const b = api.KeyBlanks
	parts(t, "a bc d", 0, 2, 1, 2, 1, b, "b")
	parts(t, "a bc d", 0, 2, 1, 2, 1, 0, " ")
	parts(t, "a bc d", 0, 2, 1, 2, 0, b, "bc")
	parts(t, "a bc d", 0, 2, 1, 0, 0, b, "bc d")
	parts(t, "a bc d", 0, 1, 1, 2, 1, b, "a b")
	parts(t, "a bc d", 0, 1, 1, 2, 1, 0, "a ")
	parts(t, "a  bc  d", 0, 2, 2, 2, 2, b, "c")
	parts(t, "a  bc  d", 0, 2, 2, 2, 5, b, "c  d")
	parts(t, "a  bc  d", 0, 2, 3, 3, 1, b, "  d")
	parts(t, "  a b", 0, 1, 1, 0, 0, b, "a b")
	parts(t, "  a b", 0, 1, 1, 1, 1, b, "a")
	parts(t, "  a b", 0, 1, 1, 1, 0, b, "a")
	parts(t, "  a b", 0, 1, 1, 1, 1, 0, " ")
	parts(t, "  a b", 0, 1, 2, 1, 0, b, "")
	parts(t, "\t a", 0, 1, 1, 0, 0, b, "a")
	parts(t, "   ", 0, 1, 1, 0, 0, b, "")
	parts(t, "   ", 0, 1, 1, 1, 1, b, "")
	parts(t, "", 0, 1, 1, 0, 0, b, "")
	parts(t, "a  ", 0, 2, 1, 2, 0, b, "")
	parts(t, "a  ", 0, 1, 1, 2, 1, b, "a  ")
	parts(t, "a", 0, 2, 1, 2, 1, b, "")
	parts(t, "a:  b :c", ':', 2, 1, 2, 0, b, "b ")
	parts(t, "a:  b :c", ':', 2, 1, 2, 1, b, "b")
	parts(t, "a:  b :c", ':', 2, 1, 2, 0, 0, "  b ")
	parts(t, "a:  b :c", ':', 2, 2, 2, 3, b, " :")
	parts(t, "a:  :c", ':', 2, 1, 2, 0, b, "")  // all of the field is blanks
	parts(t, "a:  :c", ':', 2, 1, 2, 1, b, ":") // and behind them it counts on
	parts(t, "a: : c", ':', 2, 1, 0, 0, b, ": c")
	parts(t, " \ta", ' ', 2, 1, 0, 0, b, "a")
	parts(t, "  a", ' ', 1, 1, 0, 0, b, "  a") // the blanks are Seps, so that the field has none
	parts(t, "\n a", 0, 1, 1, 0, 0, b, "\n a")
	for flags := range 256 { // no other flag counts here
		want := " b"
		if flags&b != 0 {
			want = "b"
		}
		parts(t, "a b", 0, 2, 1, 2, 0, flags, want)
	}
}

// P16.1: fields and bytes below 1, and ends below 0.
func TestPartBelow(t *testing.T) {
	below := append([]int{0, -1, -2, -100}, math.MinInt32, math.MinInt+1, math.MinInt)
	for _, n := range below {
		parts(t, "ab cd", 0, n, 1, 0, 0, 0, "ab cd")
		parts(t, "ab cd", 0, 2, n, 0, 0, 0, " cd")
		parts(t, "ab cd", 0, n, n, 1, 0, 0, "ab")
		parts(t, "ab cd", 0, n, 2, 1, 0, 0, "b")
		parts(t, "ab cd", 0, 1, 2, n, 1, 0, "b cd")
		parts(t, "ab cd", 0, 1, 2, 1, n, 0, "b")
		parts(t, "ab cd", 0, 1, 2, n, n, 0, "b cd")
		parts(t, " ab  cd", 0, n, n, 2, 1, api.KeyBlanks, "ab  c")
		parts(t, " ab  cd", 0, n, n, n, n, api.KeyBlanks, "ab  cd")
		parts(t, "ab:cd", ':', n, n, n, n, 0, "ab:cd")
	}
}

// R1, R6: fields and bytes at an int's end.
func TestPartFar(t *testing.T) {
	for _, n := range []int{6, math.MaxInt32, math.MaxInt - 1, math.MaxInt} {
		for _, flags := range []int{0, api.KeyBlanks} {
			for _, sep := range []byte{0, ' ', ':'} {
				parts(t, "ab cd", sep, n, 1, 0, 0, flags, "")
				parts(t, "ab cd", sep, 1, n, 0, 0, flags, "")
				parts(t, "ab cd", sep, 2, n, 0, 0, flags, "")
				parts(t, "ab cd", sep, n, n, n, n, flags, "")
				parts(t, "ab cd", sep, 1, 2, n, 0, flags, "b cd")
				parts(t, "ab cd", sep, 1, 2, n, n, flags, "b cd")
				parts(t, "ab cd", sep, 1, 2, 1, n, flags, "b cd")
				parts(t, "ab cd", sep, 1, 2, 2, n, flags, "b cd")
				parts(t, "", sep, n, n, n, n, flags, "")
				parts(t, "ab cd", sep, 1, n, 2, 0, flags, "")
			}
		}
	}
}
