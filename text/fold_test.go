package text_test

import (
	"fmt"
	"math"
	"strings"
	"testing"

	"tinsel/api"
	"tinsel/text"
)

// folds: what Fold makes of a text, with words and without.
func folds(t *testing.T, s string, width int, plain, words string) {
	t.Helper()
	told(t, fmt.Sprintf("Fold(%q, %d, false)", s, width), answer(text.Fold([]byte(s), width, false)), plain)
	told(t, fmt.Sprintf("Fold(%q, %d, true)", s, width), answer(text.Fold([]byte(s), width, true)), words)
}

// P15.6: EINVAL, if the width is below 1, of any text.
func TestFoldWidth(t *testing.T) {
	for _, s := range []string{"", "\n", "a", "abc def\n"} {
		for _, width := range []int{0, -1, -8, math.MinInt32, math.MinInt, math.MinInt + 1} {
			folds(t, s, width, refused(api.EINVAL), refused(api.EINVAL))
		}
		for _, width := range []int{100, math.MaxInt32, math.MaxInt - 8, math.MaxInt - 1, math.MaxInt} {
			folds(t, s+"\t\b\r\t", width, s+"\t\b\r\t", s+"\t\b\r\t")
		}
	}
}

// P15.6: plain bytes.
func TestFoldPlain(t *testing.T) {
	for _, x := range []struct {
		s     string
		width int
		want  string
	}{
		{"", 1, ""}, {"\n", 1, "\n"}, {"\n\n", 1, "\n\n"}, {"a", 1, "a"}, {"a\n", 1, "a\n"}, {"ab", 1, "a\nb"}, {"abc\n", 1, "a\nb\nc\n"}, {"abcd", 3, "abc\nd"}, {"abc", 3, "abc"}, {"abc\n", 3, "abc\n"},
		{"abcdef", 3, "abc\ndef"}, {"abcdefg\n", 3, "abc\ndef\ng\n"}, {"abcd\nabcd\n", 3, "abc\nd\nabc\nd\n"}, {"ab\ncd", 3, "ab\ncd"}, {"\n\nabcd", 3, "\n\nabc\nd"},
		{"\x00\x01\xff\xc3\xa9", 2, "\x00\x01\n\xff\xc3\n\xa9"}, {"abcdefgh", 7, "abcdefg\nh"}, {"abcdefgh", 8, "abcdefgh"}, {"abcdefghi", 8, "abcdefgh\ni"}, {"abcdefghij", 9, "abcdefghi\nj"}, {"a\x0b\x0c\x1b", 3, "a\x0b\x0c\n\x1b"},
	} {
		folds(t, x.s, x.width, x.want, x.want)
	}
}

// P15.6: a tab goes to the next multiple of 8; at column 0 nothing is put in.
func TestFoldTabs(t *testing.T) {
	for _, x := range []struct {
		s     string
		width int
		want  string
	}{
		{"\t", 1, "\t"}, {"\t", 7, "\t"}, {"\t", 8, "\t"}, {"\ta", 7, "\t\na"}, {"\ta", 8, "\t\na"}, {"\ta", 9, "\ta"}, {"\tab", 9, "\ta\nb"}, {"\t\t", 1, "\t\n\t"}, {"\t\t", 8, "\t\n\t"}, {"\t\t", 15, "\t\n\t"}, {"\t\t", 16, "\t\t"},
		{"\t\t\t\n", 8, "\t\n\t\n\t\n"}, {"a\t", 7, "a\n\t"}, {"a\t", 8, "a\t"}, {"a\tb", 8, "a\t\nb"}, {"a\tb", 9, "a\tb"}, {"abcdefg\t", 7, "abcdefg\n\t"}, {"abcdefg\t", 8, "abcdefg\t"}, {"abcdefgh\t", 8, "abcdefgh\n\t"}, {"abcdefgh\t", 15, "abcdefgh\n\t"}, {"abcdefgh\t", 16, "abcdefgh\t"},
		{"a\t\n\tb", 1, "a\n\t\n\t\nb"},
	} {
		told(t, fmt.Sprintf("Fold(%q, %d)", x.s, x.width), answer(text.Fold([]byte(x.s), x.width, false)), x.want)
	}
}

// P15.6: byte 8 goes one back, not below 0, byte 13 to 0.
func TestFoldBack(t *testing.T) {
	for _, x := range []struct {
		s     string
		width int
		want  string
	}{
		{"\b", 1, "\b"}, {"\b\b\b", 1, "\b\b\b"}, {"\babc", 3, "\babc"}, {"\b\babcd", 3, "\b\babc\nd"}, {"abc\bd", 3, "abc\bd"}, {"abc\bde", 3, "abc\bd\ne"}, {"abc\b\b\b\bdefg", 3, "abc\b\b\b\bdef\ng"}, {"ab\b\b\bc", 1, "a\nb\b\b\bc"},
		{"\r", 1, "\r"}, {"\r\r\rabcd", 3, "\r\r\rabc\nd"}, {"abc\rdef", 3, "abc\rdef"}, {"abc\rdefg", 3, "abc\rdef\ng"}, {"abc\r\n", 3, "abc\r\n"}, {"abcd\refgh", 3, "abc\nd\refg\nh"}, {"abc\r\t", 3, "abc\r\t"}, {"abc\b\b\b\t", 3, "abc\b\b\b\t"},
		{"\t\b", 3, "\t\n\b"}, {"\t\ba", 7, "\t\b\na"}, {"\t\b", 7, "\t\b"}, {"\t\ba", 8, "\t\ba"}, {"\t\bab", 8, "\t\ba\nb"}, {"\t\r", 3, "\t\r"}, {"\t\rabc", 3, "\t\rabc"}, {"\t\rabcd", 3, "\t\rabc\nd"}, {"\t\b\b\b\b\b\b\b\b", 3, "\t\n\b\b\b\b\b\b\b\b"}, {"\tx\b", 9, "\tx\b"},
		{"ab\b\r\bcde", 2, "ab\b\r\bcd\ne"},
	} {
		told(t, fmt.Sprintf("Fold(%q, %d)", x.s, x.width), answer(text.Fold([]byte(x.s), x.width, false)), x.want)
	}
}

// P15.6: words: broken behind the last blank of a piece.
func TestFoldWords(t *testing.T) {
	for _, x := range []struct {
		s     string
		width int
		want  string
	}{
		{"ab cd ef", 5, "ab \ncd ef"}, {"ab cd ef\n", 6, "ab cd \nef\n"}, {"ab cd ef", 7, "ab cd \nef"}, {"ab cd ef", 8, "ab cd ef"}, {"abcdef", 3, "abc\ndef"}, {"ab cdefgh", 3, "ab \ncde\nfgh"}, {"ab cdefgh", 4, "ab \ncdef\ngh"},
		{"abc def", 3, "abc\n \ndef"}, {"abc def", 4, "abc \ndef"}, {"abc  def", 4, "abc \n def"}, {"abc  def", 3, "abc\n  \ndef"}, {"a b c d", 1, "a\n \nb\n \nc\n \nd"}, {"a b c d", 2, "a \nb \nc \nd"}, {"a b c d", 3, "a \nb \nc d"},
		{"    ", 2, "  \n  "}, {" abc", 3, " \nabc"}, {" abcd", 3, " \nabc\nd"}, {"aa bb cc", 5, "aa \nbb cc"}, {"aa bb\ncc dd ee", 5, "aa bb\ncc \ndd ee"}, {"a bb ccc dddd", 4, "a \nbb \nccc \ndddd"},
		{"ab\tcd", 8, "ab\t\ncd"}, {"ab\tcd", 9, "ab\t\ncd"}, {"ab\tcd", 10, "ab\tcd"}, {"a\tb", 7, "a\n\t\nb"}, {"ab cd\tx", 6, "ab \ncd\n\t\nx"}, {"ab cd\tx", 8, "ab cd\t\nx"}, {"ab cd\t", 7, "ab \ncd\n\t"}, {"\tab", 3, "\t\nab"}, {" \t", 3, " \n\t"}, {"a \t", 3, "a \n\t"},
		{"ab cd\refghi", 5, "ab cd\refghi"}, {"ab cd\refghijkl", 5, "ab \ncd\refghi\njkl"}, {"ab cde\b\b\bfgh", 6, "ab cde\b\b\bfgh"}, {"ab c\b\b\b\b\bdefgh", 4, "ab \nc\b\b\b\b\bdefg\nh"}, {"a b\r\t", 3, "a b\r\t"}, {"a b\r\tc", 3, "a b\r\t\nc"}, {"ab \b\b\b\t", 3, "ab \b\b\b\t"},
		{"a\x0bb cd", 4, "a\x0bb \ncd"}, {"abc\x0b\x0cdef", 4, "abc\x0b\n\x0cdef"}, {"ab\u00a0cd", 4, "ab\u00a0\ncd"}, {"\x00\xff \x00\xff", 4, "\x00\xff \n\x00\xff"},
	} {
		told(t, fmt.Sprintf("Fold(%q, %d, true)", x.s, x.width), answer(text.Fold([]byte(x.s), x.width, true)), x.want)
	}
}

// dropFeeds: is short what is left of long, when some line feeds are taken away?
func dropFeeds(long, short string) bool {
	for i := range len(long) {
		if short != "" && long[i] == short[0] {
			short = short[1:]
		} else if long[i] != '\n' {
			return false
		}
	}
	return short == ""
}

// P15.10: Fold takes nothing away but line feeds that it put in; what fits is left as it is, also if folded again.
func TestFoldAddsLineFeeds(t *testing.T) {
	for _, s := range everyText("a \t\b\r\n", 5) {
		for _, width := range []int{1, 2, 3, 7, 8, 9} {
			for _, words := range []bool{false, true} {
				b, e := text.Fold([]byte(s), width, words)
				if e != api.OK || !dropFeeds(string(b), s) {
					t.Fatalf("Fold(%q, %d, %v): %q, %v", s, width, words, b, e)
				}
				told(t, fmt.Sprintf("Fold of Fold(%q, %d, %v)", s, width, words), answer(text.Fold(b, width, words)), string(b))
			}
		}
	}
}

// P15.6: no piece of plain bytes is longer than the width, and all but the last are just as long.
func TestFoldedLengths(t *testing.T) {
	for _, n := range []int{1, 15, 16, 17, 100} {
		for width := 1; width < 20; width++ {
			b, _ := text.Fold([]byte(strings.Repeat("x", n)), width, true)
			l := strings.Split(string(b), "\n")
			for i, s := range l {
				if len(s) > width || i < len(l)-1 && len(s) != width || len(s) == 0 {
					t.Errorf("%d by %d: %q", n, width, l)
				}
			}
		}
	}
}
