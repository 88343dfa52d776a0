package order_test

import (
	"fmt"
	"math"
	"strings"
	"testing"

	"tinsel/api"
	"tinsel/order"
)

// joins: what Join answers, as a text; of an error nothing may stand beside it.
func joins(a, b string, fa, fb int, sep byte, alone int) string {
	l, e := order.Join(apart(a), apart(b), fa, fb, sep, alone)
	if e != api.OK {
		return fmt.Sprintf("%d lines, error %d", len(l), int(e))
	}
	return whole(l)
}

// P16.5: lines that have a field in common.
func TestJoin(t *testing.T) {
	for _, x := range []struct{ a, b, want string }{
		{"", "", ""}, {"1 x", "", ""}, {"", "1 x", ""}, {"1 x", "1 y", "1 x y"}, {"1 x|2 y", "2 z", "2 y z"}, {"1 x|2 y", "1 z", "1 x z"}, {"1 x", "2 y", ""}, {"1 x|3 y", "2 z|3 w", "3 y w"}, {"1", "1", "1"}, {"1 a b", "1 c d", "1 a b c d"},
		{"  1\t x  y ", "\t1  z", "1 x y z"}, {"1 x", "1", "1 x"}, {"1", "1 x", "1 x"}, {"a x", "A y", ""}, {"1 x", "01 y", ""}, {"10 x|9 y", "10 z|9 w", "10 x z|9 y w"}, {"\x00 \xff", "\x00 y", "\x00 \xff y"}, {"1\nx", "1\nx", "1\nx"}, {"1 1 1", "1 1", "1 1 1 1"},
	} {
		told(t, fmt.Sprintf("Join(%q, %q)", x.a, x.b), joins(x.a, x.b, 1, 1, 0, 0), x.want)
	}
}

// P16.5: runs of the same field: each line of a's with each one of b's.
func TestJoinRuns(t *testing.T) {
	told(t, "one and two", joins("1 a", "1 x|1 y", 1, 1, 0, 0), "1 a x|1 a y")
	told(t, "two and one", joins("1 a|1 b", "1 x", 1, 1, 0, 0), "1 a x|1 b x")
	told(t, "two and two", joins("1 a|1 b", "1 x|1 y", 1, 1, 0, 3), "1 a x|1 a y|1 b x|1 b y")
	told(t, "several runs", joins("1 a|1 b|2 c|3 d|3 e", "1 x|3 y|3 z|4 w", 1, 1, 0, 0), "1 a x|1 b x|3 d y|3 d z|3 e y|3 e z")
	told(t, "and alone", joins("1 a|1 b|2 c|2 d|3 e", "1 x|3 y|4 w|4 v", 1, 1, 0, 3), "1 a x|1 b x|2 c|2 d|3 e y|4 w|4 v")
	told(t, "the same", joins("1|1|1", "1|1", 1, 1, 0, 0), "1|1|1|1|1|1")
}

// P16.5: lines that are told alone.
func TestJoinAlone(t *testing.T) {
	for alone, want := range []string{"2 y z", "1 x|2 y z|4 u", "0 s|2 y z|3 w", "0 s|1 x|2 y z|3 w|4 u"} {
		for _, more := range []int{0, 4, 8, 4 + 16, 1 << 40, math.MinInt, -4} {
			told(t, fmt.Sprint("alone ", alone|more), joins("1 x|2 y|4 u", "0 s|2 z|3 w", 1, 1, 0, alone|more), want)
		}
	}
	told(t, "the chapter's", joins("1 x|2 y", "2 z", 1, 1, 0, 1), "1 x|2 y z")
	told(t, "no b", joins("1 x|2 y", "", 1, 1, 0, 1), "1 x|2 y")
	told(t, "no b, 2", joins("1 x|2 y", "", 1, 1, 0, 2), "")
	told(t, "no a", joins("", "1 x|2 y", 1, 1, 0, 2), "1 x|2 y")
	told(t, "no a, 1", joins("", "1 x|2 y", 1, 1, 0, 1), "")
	told(t, "the field ahead", joins("x y 1 z", "", 3, 1, 0, 1), "1 x y z")
	told(t, "the field ahead", joins("", "x y 1 z", 1, 3, 0, 2), "1 x y z")
	told(t, "a Sep", joins("x:y:1:z", "", 3, 1, ':', 1), "1:x:y:z")
	told(t, "blanks", joins("  x \t y ", "", 1, 1, 0, 1), "x y")
	told(t, "-1", joins("1 x", "2 y", 1, 1, 0, -1), "1 x|2 y")
	told(t, "MinInt", joins("1 x", "2 y", 1, 1, 0, math.MinInt), "")
}

// P16.5: other fields than the first one.
func TestJoinFields(t *testing.T) {
	told(t, "2, 1", joins("a 1 b", "1 x", 2, 1, 0, 0), "1 a b x")
	told(t, "1, 2", joins("1 a b", "x 1 y", 1, 2, 0, 0), "1 a b x y")
	told(t, "3, 2", joins("a b 1", "x 1", 3, 2, 0, 0), "1 a b x")
	told(t, "2, 2 of a Sep", joins("a:1:b", "x:1:y", 2, 2, ':', 0), "1:a:b:x:y")
	told(t, "as they are", joins("b 1|a 2", "y 1|x 2", 2, 2, 0, 0), "1 b y|2 a x")
}

// P16.5: a line that has not so many fields: its field is the empty text.
func TestJoinWithoutField(t *testing.T) {
	told(t, "of a", joins("a", "1 x", 2, 1, 0, 1), " a")
	told(t, "of b", joins("1 x", "a", 1, 2, 0, 2), " a")
	told(t, "of both", joins("a", "b", 2, 2, 0, 0), " a b")
	told(t, "of several", joins("a b c", "d", 9, 2, 0, 0), " a b c d")
	told(t, "a run", joins("a|b|c 1", "x|y 1", 2, 2, 0, 0), " a x| b x|1 c y")
	told(t, "empty lines", joins("|1 a", "|1 b", 1, 1, 0, 0), "|1 a b")
	told(t, "an empty line alone", joins("|1 a", "1 b", 1, 1, 0, 1), "|1 a b")
	told(t, "a line of blanks", joins(" \t |1 a", "1 b", 1, 1, 0, 1), "|1 a b")
	told(t, "an empty line and a word", joins("|", "x", 1, 2, 0, 0), " x| x")
	told(t, "a Sep", joins("a", "1:x", 2, 1, ':', 1), ":a")
	told(t, "an empty field", joins("a:", "1:x", 2, 1, ':', 1), ":a")
	told(t, "both of them", joins("a:|b", ":x", 2, 1, ':', 0), ":a:x|:b:x")
	told(t, "a Sep, an empty line", joins("|", "", 1, 1, ':', 1), "|")
	told(t, "a Sep, an empty line, beyond", joins("|", "", 2, 1, ':', 1), ":|:")
	for _, n := range []int{3, math.MaxInt32, math.MaxInt - 1, math.MaxInt} {
		told(t, fmt.Sprint("field ", n), joins("1 x", "1 y", n, 1, 0, 3), " 1 x|1 y")
		told(t, fmt.Sprint("field ", n), joins("1 x", "1 y", 1, n, 0, 3), " 1 y|1 x")
		told(t, fmt.Sprint("fields ", n), joins("1 x", "1 y", n, n, 0, 0), " 1 x 1 y")
	}
}

// P16.5: fields by a Sep: what stands between Seps.
func TestJoinSep(t *testing.T) {
	told(t, "plain", joins("1:x", "1:y", 1, 1, ':', 0), "1:x:y")
	told(t, "blanks are bytes", joins("1 :x", "1 : y", 1, 1, ':', 0), "1 :x: y")
	told(t, "and differ", joins("1 :x", "1:y", 1, 1, ':', 3), "1:y|1 :x")
	told(t, "empty fields", joins("1::x:", ":1", 1, 2, ':', 0), "1::x::")
	told(t, "a space as Sep", joins("1  x", "1 y", 1, 1, ' ', 0), "1  x y")
	told(t, "a space ahead", joins(" 1", "1", 2, 1, ' ', 0), "1 ")
	told(t, "a tab as Sep", joins("1\tx y", "1\tz", 1, 1, '\t', 0), "1\tx y\tz")
	told(t, "other Sep", joins("1:x", "1:y", 1, 1, ',', 3), "1:x|1:y")
	for c := 1; c < 256; c++ {
		s := string([]byte{byte(c)})
		if c != 'x' && c != 'y' && c != 'z' && c != '|' {
			told(t, fmt.Sprint("byte ", c), joins("y"+s+"x", "x"+s+"z", 2, 1, byte(c), 0), "x"+s+"y"+s+"z")
		}
	}
}

// P16.5: with Sep 0 only space and tab part fields.
func TestJoinBlanks(t *testing.T) {
	for c := range 256 {
		s := string([]byte{byte(c)})
		want := "y" + s + "x"
		if c == ' ' || c == '\t' {
			want = "y x"
		}
		l, e := order.Join(list("y"+s+"x"), nil, 1, 1, 0, 1)
		same(t, fmt.Sprint("byte ", c, " ", int(e)), l, list(want))
	}
}

// P16.5: lists that are not sorted: just as told.
func TestJoinOfAnyLists(t *testing.T) {
	told(t, "backwards", joins("2 a|1 b", "2 x|1 y", 1, 1, 0, 3), "2 a x|1 b y")
	told(t, "one backwards", joins("2 a|1 b", "1 x|2 y", 1, 1, 0, 3), "1 x|2 a y|1 b")
	told(t, "the other", joins("1 a|2 b", "2 x|1 y", 1, 1, 0, 3), "1 a|2 b x|1 y")
	told(t, "a run ends at another field", joins("1 a|2 b|1 c", "1 x|1 y", 1, 1, 0, 3), "1 a x|1 a y|2 b|1 c")
	told(t, "so does b's", joins("1 a|1 b", "1 x|2 y|1 z", 1, 1, 0, 3), "1 a x|1 b x|2 y|1 z")
}

// P16.5: EINVAL of fields below 1, whatever the lists are.
func TestJoinRefused(t *testing.T) {
	for _, n := range []int{0, -1, -100, math.MinInt32, math.MinInt + 1, math.MinInt} {
		for _, lines := range []string{"", "1 x"} {
			for _, sep := range []byte{0, ':'} {
				told(t, fmt.Sprint("fa ", n), joins(lines, "1 y", n, 1, sep, 3), "0 lines, error 22")
				told(t, fmt.Sprint("fb ", n), joins("1 y", lines, 1, n, sep, 3), "0 lines, error 22")
				told(t, fmt.Sprint("both ", n), joins(lines, lines, n, n, sep, 3), "0 lines, error 22")
			}
		}
	}
}

// P16.5: what is joined with itself by a field that is never twice is all of it.
func TestJoinWithItself(t *testing.T) {
	var l, want []string
	for i := range 500 {
		l = append(l, fmt.Sprintf("x%d %03d", i%3, i))
		want = append(want, fmt.Sprintf("%03d x%d x%d", i, i%3, i%3))
	}
	told(t, "itself", joins(strings.Join(l, "|"), strings.Join(l, "|"), 2, 2, 0, 3), strings.Join(want, "|"))
}
