package page_test

import (
	"fmt"
	"math"
	"strings"
	"testing"
)

// P17.5: pages with a header, the lines going down the columns.
func TestPages(t *testing.T) {
	for _, x := range []struct {
		b, title               string
		length, columns, width int
		want                   string
	}{
		{"1\n2\n3\n", "T", 4, 2, 8, "T Page 1\n\n1   3\n2\n"},
		{"1\n2\n3", "T", 4, 2, 8, "T Page 1\n\n1   3\n2\n"},
		{"1\n2\n3\n4\n", "T", 4, 2, 8, "T Page 1\n\n1   3\n2   4\n"},
		{"1\n2\n3\n4\n5\n", "T", 4, 2, 8, "T Page 1\n\n1   3\n2   4\nT Page 2\n\n5\n"},
		{"1\n2\n3\n4\n5\n6\n", "T", 4, 2, 8, "T Page 1\n\n1   3\n2   4\nT Page 2\n\n5\n6\n"},
		{"1\n2\n3\n4\n5\n6\n7\n", "T", 4, 2, 8, "T Page 1\n\n1   3\n2   4\nT Page 2\n\n5   7\n6\n"},
		{"1\n2\n3\n4\n5\n6\n7\n", "T", 5, 3, 9, "T Page 1\n\n1  4  7\n2  5\n3  6\n"},
		{"1\n2\n", "T", 5, 3, 9, "T Page 1\n\n1\n2\n"}, // the first column is not full: no rows below
		{"1\n2\n3\n4\n", "T", 3, 1, 8, "T Page 1\n\n1\nT Page 2\n\n2\nT Page 3\n\n3\nT Page 4\n\n4\n"},
		{"1\n2\n3\n4\n5\n", "T", 3, 2, 8, "T Page 1\n\n1   2\nT Page 2\n\n3   4\nT Page 3\n\n5\n"},
		{"a\n", "", 3, 1, 8, " Page 1\n\na\n"},
		{"a\n", "the title", 10, 1, 8, "the title Page 1\n\na\n"}, // never cut
		{"a\n", " T  ", 10, 1, 8, " T   Page 1\n\na\n"},
		{"a\n", "\tT\x00\xff\nU", 10, 1, 8, "\tT\x00\xff\nU Page 1\n\na\n"},
	} {
		told(t, fmt.Sprintf("Pages(%q, %q, %d, %d, %d)", x.b, x.title, x.length, x.columns, x.width), paged(x.b, x.title, x.length, x.columns, x.width), x.want)
	}
}

// P17.5: of no lines there is no page; of an empty line there is one.
func TestPagesOfLittle(t *testing.T) {
	for _, length := range []int{3, 4, 1000} {
		for _, columns := range []int{1, 2, 100} {
			told(t, "no lines", paged("", "T", length, columns, 1000), "")
			told(t, "an empty line", paged("\n", "T", length, columns, 1000), "T Page 1\n\n\n")
			told(t, "a line that is not ended", paged("a", "T", length, columns, 1000), "T Page 1\n\na\n")
		}
	}
	told(t, "empty lines", paged("\n\n\n", "T", 10, 2, 8), "T Page 1\n\n\n\n\n")
	told(t, "empty lines on two pages", paged("\n\n\n", "T", 3, 2, 8), "T Page 1\n\n\nT Page 2\n\n\n")
	told(t, "an empty line between", paged("a\n\nb\n\n", "T", 4, 2, 8), "T Page 1\n\na   b\n\n")
	told(t, "an empty line behind", paged("a\n\n", "T", 10, 2, 8), "T Page 1\n\na\n\n")
	told(t, "an empty line ahead", paged("\na\n\nb", "T", 4, 2, 8), "T Page 1\n\n\na   b\n")
}

// P17.5: a column is width / columns wide, a line cut to one byte less.
func TestPagesCut(t *testing.T) {
	const b = "abcdefghij\nklm\nno\np\n"
	for _, x := range []struct {
		columns, width int
		want           string
	}{
		{1, 1, "\n\n\n\n"}, {1, 2, "a\nk\nn\np\n"}, {1, 3, "ab\nkl\nno\np\n"}, {1, 10, "abcdefghi\nklm\nno\np\n"}, {1, 11, b}, {1, 12, b}, {1, 1000, b},
	} {
		told(t, fmt.Sprint("one column, width ", x.width), paged(b, "T", 6, x.columns, x.width), "T Page 1\n\n"+x.want)
	}
	for _, x := range []struct {
		columns, width int
		want           string
	}{
		{2, 2, "\n\n"}, {2, 3, "\n\n"}, {2, 4, "a n\nk p\n"}, {2, 5, "a n\nk p\n"}, {2, 6, "ab no\nkl p\n"}, {2, 7, "ab no\nkl p\n"}, {2, 20, "abcdefghi no\nklm       p\n"}, {2, 21, "abcdefghi no\nklm       p\n"}, {2, 22, "abcdefghij no\nklm        p\n"},
		{3, 10, "ab no\nkl p\n"}, {4, 1000, "abcdefghij" + blanks(240) + "no\nklm" + blanks(247) + "p\n"},
	} {
		told(t, fmt.Sprint(x.columns, " columns, width ", x.width), paged(b, "T", 4, x.columns, x.width), "T Page 1\n\n"+x.want)
	}
	told(t, "four columns", paged(b, "T", 3, 4, 12), "T Page 1\n\nab kl no p\n")
	told(t, "a last column that is cut", paged("a\nb\ncdefgh\n", "T", 3, 3, 10), "T Page 1\n\na  b  cd\n")
	long := strings.Repeat("x", 5000)
	told(t, "a long line", paged(long+"\n"+long, "T", 3, 2, 1000), "T Page 1\n\n"+long[:499]+" "+long[:499]+"\n")
	told(t, "bytes, not letters", paged("\u00e4\u00f6\u00fc\nx", "T", 3, 2, 8), "T Page 1\n\n\u00e4\xc3 x\n")
}

// P17.5: blanks at the end of a row go, a line's own, too; those within it stay.
func TestPagesBlanks(t *testing.T) {
	for _, x := range []struct{ b, want string }{
		{"a  \nb\n", "a   b\n"}, {"a\nb  \n", "a   b\n"}, {"a\n  \n", "a\n"}, {"  \n  \n", "\n"}, {" a\n b\n", " a   b\n"}, {"a\t\nb\t\n", "a\t  b\n"}, {"a\n\t\n", "a\n"}, {"\n\t\n", "\n"}, {"\nb\n", "    b\n"}, {"a\rb\nc\r\n", "a\rb c\r\n"}, {"\t\tx\ny", "\t\tx y\n"}, {"\x00\n\xff\n", "\x00   \xff\n"}, {"a b\nc d\n", "a b c d\n"},
	} {
		told(t, fmt.Sprintf("Pages(%q)", x.b), paged(x.b, "T", 3, 2, 8), "T Page 1\n\n"+x.want)
	}
	told(t, "an empty column between", paged("a\n\nb\n", "T", 3, 3, 9), "T Page 1\n\na     b\n")
	told(t, "an empty column behind", paged("a\n\n\n", "T", 3, 3, 9), "T Page 1\n\na\n")
}

// P17.5: as many lines as a page has, one more, one less, for pages of several sizes.
func TestPagesFull(t *testing.T) {
	for _, length := range []int{3, 4, 7, 1000} {
		for _, columns := range []int{1, 2, 100} {
			full := (length - 2) * columns
			for _, n := range []int{full - 1, full, full + 1, 2 * full, 2*full + 1} {
				lines := strings.Repeat("x\n", n)
				got := paged(lines, "T", length, columns, 1000)
				pages := (n + full - 1) / full
				rest := n - (pages-1)*full // on the last page
				if rest == 0 {
					rest = full
				}
				feeds := max(0, (pages-1)*length) // each page but the last has all its lines
				if n > 0 {
					feeds += 2 + min(rest, length-2)
				}
				what := fmt.Sprintf("%d lines, length %d, columns %d", n, length, columns)
				told(t, what, fmt.Sprint(strings.Count(got, "\n"), strings.Count(got, "T Page "), strings.Count(got, "x")), fmt.Sprint(feeds, pages, n))
				if pages > 0 && !strings.Contains("\n"+got, fmt.Sprintf("\nT Page %d\n\nx", pages)) {
					t.Errorf("%s: no page %d", what, pages)
				}
			}
		}
	}
}

// P17.5: pages are numbered from 1 on, without noughts at the front.
func TestPagesNumbers(t *testing.T) {
	want := ""
	for i := range 1200 {
		want += fmt.Sprintf("T Page %d\n\nx\n", i+1)
	}
	told(t, "many pages", paged(strings.Repeat("x\n", 1200), "T", 3, 1, 8), want)
}

// P17.5: lengths, columns and widths that just may be.
func TestPagesTaken(t *testing.T) {
	for _, x := range [][3]int{{3, 1, 1}, {3, 1, 2}, {3, 1, 999}, {3, 1, 1000}, {1000, 1, 1}, {999, 1, 1}, {3, 2, 2}, {3, 99, 99}, {3, 99, 1000}, {3, 100, 100}, {3, 100, 101}, {3, 100, 1000}, {1000, 100, 1000}} {
		want := "T Page 1\n\na\n"
		if x[2] == x[1] || x[2] == 101 {
			want = "T Page 1\n\n\n" // columns of one byte
		}
		told(t, fmt.Sprint("Pages by ", x), paged("a", "T", x[0], x[1], x[2]), want)
		told(t, fmt.Sprint("Pages of nothing by ", x), paged("", "T", x[0], x[1], x[2]), "")
	}
}

// P17.5: and such that may not.
func TestPagesRefused(t *testing.T) {
	for _, b := range []string{"", "\n", "a\nb\nc\n"} {
		for _, n := range append([]int{2, 1, 0, -1, -3, 1001, 1002, 1 << 20}, farInts...) {
			told(t, fmt.Sprint("length ", n), paged(b, "T", n, 1, 80), refused)
		}
		for _, n := range append([]int{0, -1, -2, 101, 102, 1000}, farInts...) {
			told(t, fmt.Sprint("columns ", n), paged(b, "T", 10, n, 1000), refused)
			told(t, fmt.Sprint("columns and width ", n), paged(b, "T", 10, n, n), refused)
		}
		for _, n := range append([]int{0, -1, -80, 1001, 1002, 1 << 20}, farInts...) {
			told(t, fmt.Sprint("width ", n), paged(b, "T", 10, 1, n), refused)
		}
		for _, columns := range []int{1, 2, 3, 50, 99, 100} {
			told(t, fmt.Sprint("width below ", columns), paged(b, "T", 10, columns, columns-1), refused)
			told(t, fmt.Sprint("width 1001, columns ", columns), paged(b, "T", 10, columns, 1001), refused)
		}
		told(t, "all of them", paged(b, "", math.MinInt, math.MaxInt, math.MinInt), refused)
	}
}
