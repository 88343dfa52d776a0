package text_test

import (
	"fmt"
	"math"
	"math/big"
	"strings"
	"testing"

	"tinsel/text"
)

// P15.4: numbers ahead of lines, written out.
func TestNumber(t *testing.T) {
	for _, x := range []struct {
		b                  string
		start, step, width int
		all                bool
		want               string
	}{
		{"", 1, 1, 3, false, ""},
		{"", 1, 1, 3, true, ""},
		{"x\n\ny\n", 1, 1, 3, false, "  1\tx\n    \n  2\ty\n"},
		{"x\n\ny\n", 1, 1, 3, true, "  1\tx\n  2\t\n  3\ty\n"},
		{"\n", 1, 1, 3, false, "    \n"},
		{"\n", 1, 1, 3, true, "  1\t\n"},
		{"x", 1, 1, 3, false, "  1\tx"},
		{"x\ny", 1, 1, 3, true, "  1\tx\n  2\ty"},
		{"\n\nx", 1, 1, 1, false, "  \n  \n1\tx"},
		{" \n\t\n\x00\n\r\n", 1, 1, 2, false, " 1\t \n 2\t\t\n 3\t\x00\n 4\t\r\n"},
		{"x\ny\nz\n", 9, 1, 2, false, " 9\tx\n10\ty\n11\tz\n"},
		{"x\ny\nz\n", 99, 1, 2, false, "99\tx\n100\ty\n101\tz\n"},
		{"x\ny\nz\n", 0, 0, 2, false, " 0\tx\n 0\ty\n 0\tz\n"},
		{"x\ny\nz\n", 7, 0, 2, true, " 7\tx\n 7\ty\n 7\tz\n"},
		{"x\ny\nz\n", 1, -1, 3, false, "  1\tx\n  0\ty\n -1\tz\n"},
		{"x\ny\nz\n", -9, -1, 2, false, "-9\tx\n-10\ty\n-11\tz\n"},
		{"x\ny\nz\n", 5, 10, 3, false, "  5\tx\n 15\ty\n 25\tz\n"},
		{"x\n\ny\n", 5, 10, 3, false, "  5\tx\n    \n 15\ty\n"},
		{"\xff\n", 1, 1, 1, false, "1\t\xff\n"},
	} {
		is(t, fmt.Sprintf("Number(%q, %d, %d, %d, %v)", x.b, x.start, x.step, x.width, x.all), text.Number([]byte(x.b), x.start, x.step, x.width, x.all), x.want)
	}
}

// P15.4: the width counts as 1, if below, as 100, if above.
func TestNumberWidth(t *testing.T) {
	for width, places := range map[int]int{
		1: 1, 2: 2, 3: 3, 6: 6, 99: 99, 100: 100, 0: 1, -1: 1, -100: 1, math.MinInt: 1, math.MinInt + 1: 1,
		101: 100, 102: 100, 1000: 100, math.MaxInt32: 100, math.MaxInt: 100, math.MaxInt - 1: 100,
	} {
		is(t, fmt.Sprint("width ", width), text.Number([]byte("a\n\nb"), 4, 1, width, false), blanks(places-1)+"4\ta\n"+blanks(places+1)+"\n"+blanks(places-1)+"5\tb")
		wide := "-9223372036854775808"
		is(t, fmt.Sprint("wide in width ", width), text.Number([]byte("a\n\n"), math.MinInt, 1, width, false), blanks(max(places-len(wide), 0))+wide+"\ta\n"+blanks(places+1)+"\n")
	}
}

// numbers: those that lines of which none is empty get, "-" for blanks.
func numbers(t *testing.T, start, step, lines int) string {
	t.Helper()
	var l []string
	for _, s := range strings.SplitAfter(string(text.Number([]byte(strings.Repeat("x\n", lines)), start, step, 5, false)), "\n")[:lines] {
		n, rest, _ := strings.Cut(s, "\t")
		if s == blanks(6)+"x\n" {
			n, rest = "-", "x\n"
		}
		if rest != "x\n" {
			t.Errorf("Number from %d by %d: %q", start, step, s)
		}
		l = append(l, strings.TrimLeft(n, " "))
	}
	return strings.Join(l, " ")
}

// P15.4, R6: behind a number that no int holds nothing is numbered.
func TestNumberAtTheEnds(t *testing.T) {
	for _, start := range append([]int{0, 1, -1}, farInts...) {
		for _, step := range append([]int{0, 1, -1, 2, -2, 1 << 62, -1 << 62}, farInts...) {
			var l []string
			for i := range 5 {
				n := new(big.Int).Mul(big.NewInt(int64(step)), big.NewInt(int64(i)))
				if n.Add(n, big.NewInt(int64(start))); n.IsInt64() {
					l = append(l, n.String())
				} else {
					l = append(l, "-")
				}
			}
			told(t, fmt.Sprintf("from %d by %d", start, step), numbers(t, start, step, 5), strings.Join(l, " "))
		}
	}
	told(t, "the greatest", numbers(t, math.MaxInt-1, 1, 4), "9223372036854775806 9223372036854775807 - -")
	told(t, "the least", numbers(t, math.MinInt+1, -1, 4), "-9223372036854775807 -9223372036854775808 - -")
	told(t, "to and fro", numbers(t, math.MaxInt, math.MinInt, 4), "9223372036854775807 -1 - -")
	is(t, "empty lines", text.Number([]byte("\na\n\nb\n\n"), math.MaxInt, 1, 1, true), "9223372036854775807\t\n  a\n  \n  b\n  \n")
	is(t, "empty lines that do not count", text.Number([]byte("\na\n\nb\n"), math.MaxInt, 1, 1, false), "  \n9223372036854775807\ta\n  \n  b\n")
}
