package text_test

import (
	"fmt"
	"math"
	"strings"
	"testing"

	"tinsel/api"
	"tinsel/text"
)

// expands: what Expand makes of a text.
func expands(t *testing.T, s string, stops []int, want string) {
	t.Helper()
	told(t, fmt.Sprintf("Expand(%q, %v)", s, stops), answer(text.Expand([]byte(s), stops)), want)
}

// unexpands: what Unexpand makes of a text, at the beginnings of lines and anywhere.
func unexpands(t *testing.T, s string, stops []int, begin, all string) {
	t.Helper()
	told(t, fmt.Sprintf("Unexpand(%q, %v, false)", s, stops), answer(text.Unexpand([]byte(s), stops, false)), begin)
	told(t, fmt.Sprintf("Unexpand(%q, %v, true)", s, stops), answer(text.Unexpand([]byte(s), stops, true)), all)
}

// P15.7: EINVAL, if a stop is below 1, or they do not rise, of any text.
func TestStops(t *testing.T) {
	for _, s := range []string{"", "\n", "a", "\ta\t", "  a  b"} {
		for _, stops := range [][]int{
			{0}, {-1}, {math.MinInt}, {0, 1}, {-1, 1}, {0, 0}, {1, 0}, {1, -1}, {1, 1}, {2, 1}, {3, 2}, {1, 2, 2}, {1, 3, 2}, {2, 1, 3}, {1, 2, 0}, {1, 2, -5}, {-2, -1}, {5, 5, 6}, {1, 2, 3, 4, 4},
			{math.MaxInt, math.MaxInt}, {math.MaxInt, 1}, {1, math.MinInt}, {math.MinInt, 1}, {math.MaxInt, math.MinInt},
		} {
			expands(t, s, stops, refused(api.EINVAL))
			unexpands(t, s, stops, refused(api.EINVAL), refused(api.EINVAL))
		}
	}
	for _, stops := range [][]int{nil, {}, {1}, {8}, {1, 2}, {1, math.MaxInt}, {math.MaxInt - 1, math.MaxInt}, {math.MaxInt}} {
		expands(t, "ab\x00\n", stops, "ab\x00\n")
		unexpands(t, "ab\x00\n", stops, "ab\x00\n", "ab\x00\n")
	}
}

// P15.7: tabs as blanks, by the stop 8, if there is none.
func TestExpandByEight(t *testing.T) {
	for _, x := range [][2]string{
		{"", ""}, {"\n", "\n"}, {"a", "a"}, {"\t", blanks(8)}, {"\t\n", blanks(8) + "\n"}, {"\t\t", blanks(16)}, {"a\t", "a" + blanks(7)}, {"a\tb\tc", "a" + blanks(7) + "b" + blanks(7) + "c"}, {"abcdefg\tx", "abcdefg x"}, {"abcdefgh\tx", "abcdefgh" + blanks(8) + "x"}, {"abcdefghi\tx", "abcdefghi" + blanks(7) + "x"},
		{" \tx", blanks(8) + "x"}, {"a\n\tb\n", "a\n" + blanks(8) + "b\n"}, {"abc\n\n\tb", "abc\n\n" + blanks(8) + "b"}, {"\x00\xff\t", "\x00\xff" + blanks(6)}, {"é\t", "é" + blanks(6)}, {"\x0b\x0c\t", "\x0b\x0c" + blanks(6)},
		{"\b\tx", "\b" + blanks(8) + "x"}, {"a\b\tx", "a\b" + blanks(8) + "x"}, {"ab\b\tx", "ab\b" + blanks(7) + "x"}, {"ab\b\b\b\b\tx", "ab\b\b\b\b" + blanks(8) + "x"}, {"abc\r\tx", "abc\r" + blanks(8) + "x"}, {"abc\ra\tx", "abc\ra" + blanks(7) + "x"}, {"\t\b\tx", blanks(8) + "\b x"}, {"\t\b\b\tx", blanks(8) + "\b\b" + blanks(2) + "x"},
		{"\ta\b\b\tx", blanks(8) + "a\b\b x"}, {"\t\t\b\tx", blanks(16) + "\b x"}, {"\t\r\tx", blanks(8) + "\r" + blanks(8) + "x"},
	} {
		for _, stops := range [][]int{nil, {}, {8}} {
			expands(t, x[0], stops, x[1])
		}
	}
}

// P15.7: one stop: every multiple of it.
func TestExpandByOneStop(t *testing.T) {
	for _, stop := range []int{1, 2, 3, 4, 7, 9, 100} {
		for ahead := range 2*stop + 2 {
			s := strings.Repeat("x", ahead)
			n := stop - ahead%stop
			expands(t, s+"\ty\n", []int{stop}, s+blanks(n)+"y\n")
			expands(t, s+"\t\ty\n", []int{stop}, s+blanks(n+stop)+"y\n")
			expands(t, s+"y\b\t", []int{stop}, s+"y\b"+blanks(n))
			expands(t, s+"y\r\t", []int{stop}, s+"y\r"+blanks(stop))
		}
	}
	expands(t, "\b\t\b\b\tx", []int{1}, "\b \b\b x")
}

// P15.7: several stops; behind the last one a tab is one blank.
func TestExpandBySeveralStops(t *testing.T) {
	for _, x := range []struct {
		s     string
		stops []int
		want  string
	}{
		{"a\tb\t\n", []int{2, 5}, "a b  \n"}, {"\t", []int{2, 5}, "  "}, {"\t\t", []int{2, 5}, "     "}, {"\t\t\t", []int{2, 5}, blanks(6)}, {"\t\t\t\t", []int{2, 5}, blanks(7)}, {"\t\t\tx\ty", []int{2, 5}, blanks(6) + "x y"},
		{"ab\tc", []int{2, 5}, "ab   c"}, {"abc\td", []int{2, 5}, "abc  d"}, {"abcd\te", []int{2, 5}, "abcd e"}, {"abcde\tf", []int{2, 5}, "abcde f"}, {"abcdef\tg\th", []int{2, 5}, "abcdef g h"}, {"abcde\b\tf", []int{2, 5}, "abcde\b f"}, {"abcdef\b\b\tf", []int{2, 5}, "abcdef\b\b f"}, {"abcdef\b\b\b\b\b\tf", []int{2, 5}, "abcdef\b\b\b\b\b f"}, {"abcdefgh\r\tf", []int{2, 5}, "abcdefgh\r  f"},
		{"\t\t\b\tf", []int{2, 5}, "     \b f"}, {"\t\t\t\b\b\tf", []int{2, 5}, "      \b\b f"}, {"\t\b\b\b\tf", []int{2, 5}, "  \b\b\b  f"}, {"\t\b\tf", []int{2, 5}, "  \b f"}, {"\t\t\b\b\b\b\tf", []int{2, 5}, "     \b\b\b\b f"},
		{"\t\t\t\n\t\t\tx", []int{1, 2}, "   \n   x"}, {"\t\tx", []int{8, 16}, blanks(16) + "x"}, {"\t\t\tx", []int{8, 16}, blanks(17) + "x"}, {"\ta\tb\tc\td", []int{1, 4, 9}, " a  b    c d"},
	} {
		expands(t, x.s, x.stops, x.want)
	}
}

// P15.7: runs of blanks and tabs, by the stop 8.
func TestUnexpandByEight(t *testing.T) {
	for _, x := range [][3]string{
		{"", "", ""}, {"\n", "\n", "\n"}, {"a", "a", "a"}, {" ", " ", " "}, {" a", " a", " a"}, {"  a", "  a", "  a"}, {blanks(7) + "a", blanks(7) + "a", blanks(7) + "a"}, {blanks(8) + "a", "\ta", "\ta"}, {blanks(9) + "a", "\t a", "\t a"}, {blanks(16) + "a", "\t\ta", "\t\ta"}, {blanks(20), "\t\t    ", "\t\t    "},
		{"\ta", "\ta", "\ta"}, {" \ta", "\ta", "\ta"}, {blanks(7) + "\ta", "\ta", "\ta"}, {blanks(8) + "\ta", "\t\ta", "\t\ta"}, {"\t \ta", "\t\ta", "\t\ta"}, {" \t a", "\t a", "\t a"}, {"\t  a", "\t  a", "\t  a"},
		{"a" + blanks(7) + "b", "a" + blanks(7) + "b", "a\tb"}, {"a" + blanks(6) + "b", "a" + blanks(6) + "b", "a" + blanks(6) + "b"}, {"a" + blanks(8) + "b", "a" + blanks(8) + "b", "a\t b"}, {"abcdefg b", "abcdefg b", "abcdefg b"}, {"abcdefg  b", "abcdefg  b", "abcdefg\t b"}, {"abcdefg\tb", "abcdefg\tb", "abcdefg\tb"}, {"abcdefg \tb", "abcdefg \tb", "abcdefg\t\tb"}, {"abcdef \tb", "abcdef \tb", "abcdef\tb"},
		{"a b", "a b", "a b"}, {"a  b", "a  b", "a  b"}, {"a \tb", "a \tb", "a\tb"}, {"a\t b", "a\t b", "a\t b"}, {"a ", "a ", "a "}, {"abcdefg ", "abcdefg ", "abcdefg "}, {"abcdefg  ", "abcdefg  ", "abcdefg\t "},
		{blanks(8) + "a   b c", "\ta   b c", "\ta   b c"}, {blanks(8) + "a" + blanks(8) + "b", "\ta" + blanks(8) + "b", "\ta\t b"}, {blanks(8) + "\n" + blanks(8) + "a\n", "\t\n\ta\n", "\t\n\ta\n"}, {"a" + blanks(7) + "b\n" + blanks(8), "a" + blanks(7) + "b\n\t", "a\tb\n\t"}, {"a\n" + blanks(8) + "b" + blanks(8), "a\n\tb" + blanks(8), "a\n\tb\t "},
		{"\b" + blanks(8), "\b" + blanks(8), "\b\t"}, {"a\b" + blanks(8) + "x", "a\b" + blanks(8) + "x", "a\b\tx"}, {"ab\r" + blanks(8) + "x", "ab\r" + blanks(8) + "x", "ab\r\tx"}, {blanks(8) + "\b  x", "\t\b  x", "\t\b\t x"}, {blanks(8) + "\b x", "\t\b x", "\t\b x"}, {blanks(8) + "\b\b  x", "\t\b\b  x", "\t\b\b\tx"}, {"\r ", "\r ", "\r "}, {"\x00\xff" + blanks(6) + "x", "\x00\xff" + blanks(6) + "x", "\x00\xff\tx"},
	} {
		for _, stops := range [][]int{nil, {}, {8}} {
			unexpands(t, x[0], stops, x[1], x[2])
		}
	}
}

// P15.7: a single blank that begins a line is a run as others are; inside it stays, though it reaches a stop; a single tab is written anew.
func TestUnexpandSingleBlank(t *testing.T) {
	unexpands(t, " a b c\n d", []int{1}, "\ta b c\n\td", "\ta b c\n\td")
	unexpands(t, "  a  b\n", []int{1}, "\t\ta  b\n", "\t\ta\t\tb\n")
	unexpands(t, " a b c\n d", []int{1, 3}, "\ta b c\n\td", "\ta b c\n\td")
	unexpands(t, "a b c", []int{2, 4}, "a b c", "a b c")
	unexpands(t, "a\tb\tc\td", []int{2, 4}, "a\tb\tc\td", "a\tb\tc d")
	unexpands(t, "\t\t\t", []int{2, 4}, "\t\t ", "\t\t ")
	unexpands(t, "\b b", []int{1}, "\b b", "\b b")
}

// P15.7: several stops; behind the last one there is none that a run could reach.
func TestUnexpandBySeveralStops(t *testing.T) {
	for _, x := range []struct {
		s          string
		begin, all string
	}{
		{" x", " x", " x"}, {"  x", "\tx", "\tx"}, {"   x", "\t x", "\t x"}, {"    x", "\t  x", "\t  x"}, {"     x", "\t\tx", "\t\tx"}, {"      x", "\t\t x", "\t\t x"}, {blanks(9) + "x", "\t\t    x", "\t\t    x"},
		{"\tx", "\tx", "\tx"}, {"\t\tx", "\t\tx", "\t\tx"}, {"\t\t\tx", "\t\t x", "\t\t x"}, {"\t\t\t\t x", "\t\t   x", "\t\t   x"}, {" \t \tx", "\t\tx", "\t\tx"}, {"a    x", "a    x", "a\t\tx"}, {"a   x", "a   x", "a\t  x"}, {"abc  x", "abc  x", "abc\tx"}, {"abc   x", "abc   x", "abc\t x"}, {"abcde   x", "abcde   x", "abcde   x"}, {"abcde\t\tx", "abcde\t\tx", "abcde  x"}, {"abcdef\b\b\b  x", "abcdef\b\b\b  x", "abcdef\b\b\b\tx"}, {"abcdef\b\b\b\b   x", "abcdef\b\b\b\b   x", "abcdef\b\b\b\b\tx"}, {"abcdef\b\b\b\b\b    x", "abcdef\b\b\b\b\b    x", "abcdef\b\b\b\b\b\t\tx"}, {"abcdef\r  x", "abcdef\r  x", "abcdef\r\tx"},
	} {
		unexpands(t, x.s, []int{2, 5}, x.begin, x.all)
	}
}

// P15.7, R6: stops at an int's end: columns beyond it are told apart, too.
func TestFarStops(t *testing.T) {
	const far = math.MaxInt
	unexpands(t, "\t\t\tx", []int{far}, "\t\t\tx", "\t\t\tx")
	unexpands(t, " \t  \t\t ", []int{far}, "\t\t\t ", "\t\t\t ")
	unexpands(t, "ab  \t\t   c", []int{far}, "ab  \t\t   c", "ab\t\t   c")
	unexpands(t, "\t\t\b  x", []int{far}, "\t\t\b  x", "\t\t\b\t x")
	unexpands(t, "\t\t\b\b\b\t x", []int{far}, "\t\t\b\b\b\t x", "\t\t\b\b\b\t x")
	unexpands(t, "\tabc\t\t  x", []int{1, far}, "\tabc\t\t  x", "\tabc\t   x")
	unexpands(t, "\t\t\t\t", []int{1, far}, "\t\t  ", "\t\t  ")
	unexpands(t, "\t\t\t\t", []int{far - 1, far}, "\t\t  ", "\t\t  ")
	unexpands(t, "\t  \t", []int{far - 1, far}, "\t\t  ", "\t\t  ")
	unexpands(t, "\t\b  \t", []int{far - 1, far}, "\t\b  \t", "\t\b\t\t ")
	expands(t, "a\rb\bc\n", []int{far}, "a\rb\bc\n")
	expands(t, "\t\tx", []int{1, 3, far}, "   x")
	expands(t, "\t\tx\b\b\b\t", []int{1, 3, far}, "   x\b\b\b  ")
}

// P15.10: Expand has no tabs; Expand of Unexpand is Expand.
func TestExpandOfUnexpand(t *testing.T) {
	for _, s := range everyText(" \ta\b\r\n", 6) {
		for _, stops := range [][]int{nil, {1}, {2}, {3}, {1, 2}, {2, 3, 5}, {1, 4}, {3, 100}} {
			want, e := text.Expand([]byte(s), stops)
			if e != api.OK || strings.Contains(string(want), "\t") {
				t.Fatalf("Expand(%q, %v): %q, %v", s, stops, want, e)
			}
			for _, all := range []bool{false, true} {
				u, e := text.Unexpand([]byte(s), stops, all)
				if e != api.OK {
					t.Fatalf("Unexpand(%q, %v, %v): %v", s, stops, all, e)
				}
				expands(t, string(u), stops, string(want))
			}
		}
	}
}

// Without a promise: blanks beyond the bound of an answer are not begun.
func TestExpandBeyondTheBound(t *testing.T) {
	for _, s := range []string{"\t", "ab\n\tc\n", "\tx\n\ty"} {
		expands(t, s, []int{math.MaxInt}, refused(api.ERANGE))
		expands(t, s, []int{math.MaxInt - 1, math.MaxInt}, refused(api.ERANGE))
	}
}
