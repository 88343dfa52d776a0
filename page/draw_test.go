package page_test

import (
	"fmt"
	"math"
	"strings"
	"testing"

	"tinsel/api"
	"tinsel/page"
)

// P17.4: rows of blanks, over which texts are written.
func TestDraw(t *testing.T) {
	for _, x := range []struct{ l, want string }{
		{"", ""},
		{"hi 2,1", "\n  hi\n"},
		{"hi 2,1|o 3,1", "\n  ho\n"},
		{"a 0,0", "a\n"}, {"a 3,0", "   a\n"}, {"a 0,3", "\n\n\na\n"},
		{"a 0,0|b 1,0|c 2,0", "abc\n"}, {"c 2,0|b 1,0|a 0,0", "abc\n"}, {"c 2,0|a 0,0", "a c\n"},
		{"a 0,2|b 0,0", "b\n\na\n"}, {"a 1,1|b 0,0|c 0,2", "b\n a\nc\n"},
		{"abc 0,0|abc 8,0|abc 4,0", "abc abc abc\n"},
		{"abcd 0,0|xy 1,0", "axyd\n"}, {"xy 1,0|abcd 0,0", "abcd\n"}, {"ab 0,0|cd 0,0|e 0,0", "ed\n"}, {"abc 0,0|xyz 2,0", "abxyz\n"}, {"abc 2,0|xyz 0,0", "xyzbc\n"}, {"abc 0,0|x 5,0", "abc  x\n"},
		{"abc 0,0|abc 0,1|x 1,0", "axc\nabc\n"},
	} {
		told(t, "Draw "+x.l, drawn(x.l), x.want)
	}
	told(t, "Draw of an empty list", bytesOr(page.Draw([]api.Item{})), "")
}

// P17.4: an empty text writes nothing, but its row is there.
func TestDrawEmptyTexts(t *testing.T) {
	for _, x := range []struct{ l, want string }{
		{" 0,0", "\n"}, {" 999,0", "\n"}, {" 0,2", "\n\n\n"}, {"a 0,0| 0,0", "a\n"}, {"abc 0,0| 1,0", "abc\n"}, {"a 0,0| 5,0", "a\n"}, {"a 0,0| 7,2", "a\n\n\n"}, {" 4,0|a 2,0", "  a\n"}, {" 4,0|a 6,0", "      a\n"},
	} {
		told(t, "Draw "+x.l, drawn(x.l), x.want)
	}
}

// P17.4: blanks at a line's end go, those that texts have, too; others stay, and hide what they are written over.
func TestDrawBlanks(t *testing.T) {
	for _, x := range []struct{ l, want string }{
		{"a  0,0", "a\n"}, {"a\t 0,0", "a\n"}, {"a \t \t 0,0", "a\n"}, {"  0,0", "\n"}, {" \t  3,1", "\n\n"},
		{" a 0,0", " a\n"}, {"\ta 0,0", "\ta\n"}, {"a  b 0,0", "a  b\n"}, {"a b  2,0", "  a b\n"},
		{"abc 0,0|   1,0", "a\n"}, {"abc 0,0|  1,0", "a c\n"}, {"abc 0,0|    0,0", "\n"}, {"abc 0,0|\t 2,0", "ab\n"}, {"a  0,0|b 1,0", "ab\n"}, {"a   0,0|b 1,0", "ab\n"}, {"a   0,0|b 3,0", "a  b\n"},
		{"a  0,0|b  0,1|c 0,2", "a\nb\nc\n"}, {"a\r 0,0", "a\r\n"}, {"a \v 0,0", "a \v\n"}, {"a\f 0,0", "a\f\n"}, {"a\u00a0 0,0", "a\u00a0\n"}, {"a\x00 0,0", "a\x00\n"},
	} {
		told(t, fmt.Sprintf("Draw %q", x.l), drawn(x.l), x.want)
	}
}

// P17.4: line feeds, tabs and all other bytes are written as they are.
func TestDrawAnyBytes(t *testing.T) {
	for _, x := range []struct{ l, want string }{
		{"a\nb 0,0", "a\nb\n"}, {"a\nb 2,0|c 4,0", "  a\nc\n"}, {"a\nb 0,0|c 1,0", "acb\n"}, {"a\nb 0,0|c 0,1", "a\nb\nc\n"}, {"\n 0,0", "\n\n"}, {"a\n 0,0", "a\n\n"}, {"a\n  0,0", "a\n\n"}, {"a \nb 0,0", "a \nb\n"},
		{"a\tb 0,0", "a\tb\n"}, {"a\tb 0,0|c 3,0", "a\tbc\n"}, {"a\tb 0,0|c 1,0", "acb\n"}, {"\t\tb 0,0|c 8,0", "\t\tb     c\n"},
		{"a\bb 0,0|c 3,0", "a\bbc\n"}, {"a\rb 0,0|c 3,0", "a\rbc\n"}, {"\u00e4 0,0|c 2,0", "\u00e4c\n"}, {"\u00e4 0,0|c 1,0", "\xc3c\n"},
	} {
		told(t, fmt.Sprintf("Draw %q", x.l), drawn(x.l), x.want)
	}
	for c := range 256 {
		s := string([]byte{byte(c)})
		told(t, fmt.Sprint("byte ", c), bytesOr(page.Draw([]api.Item{item(s+"x", 1), item(s, 4)})), strings.TrimRight(" "+s+"x "+s, " \t")+"\n")
	}
}

// P17.4: columns and rows from 0 to 999, and no others.
func TestDrawSides(t *testing.T) {
	feeds := strings.Repeat("\n", 999)
	told(t, "column 999", drawn("a 999,0"), blanks(999)+"a\n")
	told(t, "row 999", drawn("a 0,999"), feeds+"a\n")
	told(t, "both", drawn("a 999,999|b 0,0"), "b"+feeds+blanks(999)+"a\n")
	told(t, "a text beyond", drawn("abc 999,0"), blanks(999)+"abc\n")
	long := strings.Repeat("x", 5000)
	told(t, "a long text", drawn(long+" 2,1|y 999,1"), "\n  "+long[:997]+"y"+long[998:]+"\n")
	told(t, "an empty text there", drawn(" 999,999"), feeds+"\n")
	var l []api.Item
	want := ""
	for i := range 1000 {
		l = append(l, item("\\", complex(float64(i), float64(i))))
		want += blanks(i) + "\\\n"
	}
	told(t, "all rows", bytesOr(page.Draw(l)), want)
}

// P17.4: EINVAL, wherever the item stands, whatever its text is.
func TestDrawRefused(t *testing.T) {
	for _, at := range append([]complex128{-1, -1i, 1000, 1000i, 1000 + 1000i, -1 - 1i, -1 + 5i, 5 - 1i, 1000 + 5i, 5 + 1000i, 1001, 1001i, -1000, 1 << 20, -1000i}, farPlaces...) {
		for _, text := range []string{"", "a", " "} {
			for _, l := range [][]api.Item{{item(text, at)}, {item("x", 0), item(text, at)}, {item(text, at), item("x", 5i)}, {item("x", 0), item(text, at), item("x", 5i)}} {
				told(t, "Draw "+laid(l), bytesOr(page.Draw(l)), refused)
			}
		}
	}
}

// A place that may not be counts as 0.
func TestDrawAtNoPlaces(t *testing.T) {
	for _, at := range noPlaces() {
		told(t, fmt.Sprint("Draw at ", at), bytesOr(page.Draw([]api.Item{item("a", at), item("b", 2)})), "a b\n")
		told(t, fmt.Sprint("Draw over ", at), bytesOr(page.Draw([]api.Item{item("abc", 0), item("x", at), item("y", 1i)})), "xbc\ny\n")
	}
	nought := math.Copysign(0, -1)
	told(t, "a nought below 0", bytesOr(page.Draw([]api.Item{item("a", complex(nought, nought))})), "a\n")
}
