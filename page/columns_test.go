package page_test

import (
	"fmt"
	"strings"
	"testing"

	"tinsel/api"
	"tinsel/page"
)

// layout is one of the two calls that lay texts in columns.
type layout func(l []string, width, gap int) ([]api.Item, api.Errno)

// layouts: both of them by their names.
func layouts() map[string]layout {
	return map[string]layout{"Columns": page.Columns, "Across": page.Across}
}

// grids: a layout's answers.
func grids(t *testing.T, name string, call layout, all []gridCase) {
	t.Helper()
	for _, x := range all {
		told(t, fmt.Sprintf("%s(%s, %d, %d)", name, brief(x.texts), x.width, x.gap), grid(call, x.texts, x.width, x.gap), x.want)
	}
}

type gridCase struct {
	texts      string
	width, gap int
	want       string
}

// P17.2: columns, with as few rows as fit.
func TestColumns(t *testing.T) {
	grids(t, "Columns", page.Columns, []gridCase{
		{"a|bb|c", 4, 1, "a 0,0|bb 0,1|c 3,0"},
		{"a|bb|c", 5, 1, "a 0,0|bb 0,1|c 3,0"},
		{"a|bb|c", 6, 1, "a 0,0|bb 2,0|c 5,0"},
		{"a|bb|c", 3, 1, "a 0,0|bb 0,1|c 0,2"},
		{"a|bb|c", 1, 1, "a 0,0|bb 0,1|c 0,2"},
		{"a|bb|c", 4, 0, "a 0,0|bb 1,0|c 3,0"},
		{"a|bb|c", 3, 0, "a 0,0|bb 0,1|c 2,0"},
		{"a|bb|c", 1000, 1000, "a 0,0|bb 0,1|c 0,2"},
		{"a|bb|c", 1000, 500, "a 0,0|bb 0,1|c 502,0"},
		{"a|bb|c", 1000, 498, "a 0,0|bb 499,0|c 999,0"},
		{"a|bb|c", 1000, 499, "a 0,0|bb 0,1|c 501,0"},
		{"aaa|b|c|ddd", 7, 1, "aaa 0,0|b 0,1|c 4,0|ddd 4,1"}, // the longest text counts, first or last
		{"aaa|b|c|ddd", 6, 1, "aaa 0,0|b 0,1|c 0,2|ddd 0,3"},
		{"b|aaa|ddd|c", 7, 1, "b 0,0|aaa 0,1|ddd 4,0|c 4,1"},
		{"a|a|bbb|bbb|c|c", 5, 0, "a 0,0|a 0,1|bbb 1,0|bbb 1,1|c 4,0|c 4,1"}, // three rows would not fit
		{"\u00e4\u00f6|x", 5, 1, "\u00e4\u00f6 0,0|x 0,1"},                   // bytes, not letters
		{"\u00e4\u00f6|x", 6, 1, "\u00e4\u00f6 0,0|x 5,0"},
	})
}

// P17.2: rows that are full, and such that are not.
func TestColumnsByRows(t *testing.T) {
	const one, two, three, five = "a 0,0|b 2,0|c 4,0|d 6,0|e 8,0", "a 0,0|b 0,1|c 2,0|d 2,1|e 4,0", "a 0,0|b 0,1|c 0,2|d 2,0|e 2,1", "a 0,0|b 0,1|c 0,2|d 0,3|e 0,4"
	for width, want := range map[int]string{1: five, 2: five, 3: three, 4: three, 5: two, 7: two, 8: two, 9: one, 1000: one} { // never four columns
		told(t, fmt.Sprint("five in ", width), grid(page.Columns, "a|b|c|d|e", width, 1), want)
	}
	grids(t, "Columns", page.Columns, []gridCase{
		{"a|b|c|d|e|f", 5, 1, "a 0,0|b 0,1|c 2,0|d 2,1|e 4,0|f 4,1"},
		{"a|b|c|d|e|f", 3, 1, "a 0,0|b 0,1|c 0,2|d 2,0|e 2,1|f 2,2"},
		{"a|b|c|d|e|f|g", 7, 1, "a 0,0|b 0,1|c 2,0|d 2,1|e 4,0|f 4,1|g 6,0"},
		{"a|b|c|d|e|f|g", 5, 1, "a 0,0|b 0,1|c 0,2|d 2,0|e 2,1|f 2,2|g 4,0"},
		{"a|b|c|d", 4, 1, "a 0,0|b 0,1|c 2,0|d 2,1"},
	})
}

// P17.2: texts one beside the other, with as many columns as fit.
func TestAcross(t *testing.T) {
	grids(t, "Across", page.Across, []gridCase{
		{"a|bb|c", 4, 1, "a 0,0|bb 2,0|c 0,1"},
		{"a|bb|c", 5, 1, "a 0,0|bb 2,0|c 0,1"},
		{"a|bb|c", 6, 1, "a 0,0|bb 2,0|c 5,0"},
		{"a|bb|c", 3, 1, "a 0,0|bb 0,1|c 0,2"},
		{"a|bb|c", 4, 0, "a 0,0|bb 1,0|c 3,0"},
		{"a|bb|c", 3, 0, "a 0,0|bb 1,0|c 0,1"},
		{"a|bb|c", 1000, 1000, "a 0,0|bb 0,1|c 0,2"},
		{"a|bb|c", 1000, 500, "a 0,0|bb 501,0|c 0,1"},
		{"a|bb|c", 1000, 498, "a 0,0|bb 499,0|c 999,0"},
		{"aaa|b|c|ddd", 7, 1, "aaa 0,0|b 4,0|c 6,0|ddd 0,1"},
		{"aaa|b|c|ddd", 6, 1, "aaa 0,0|b 0,1|c 0,2|ddd 0,3"},
		{"b|c|aaa|d", 6, 1, "b 0,0|c 4,0|aaa 0,1|d 4,1"},
		{"aaa|b|c|ddd|e|f", 5, 0, "aaa 0,0|b 3,0|c 4,0|ddd 0,1|e 3,1|f 4,1"}, // two columns would not fit
		{"\u00e4\u00f6|x", 5, 1, "\u00e4\u00f6 0,0|x 0,1"},
		{"\u00e4\u00f6|x", 6, 1, "\u00e4\u00f6 0,0|x 5,0"},
	})
}

// P17.2: likewise of rows that are full, and of such that are not.
func TestAcrossByRows(t *testing.T) {
	const five, four, three, two, one = "a 0,0|b 2,0|c 4,0|d 6,0|e 8,0", "a 0,0|b 2,0|c 4,0|d 6,0|e 0,1", "a 0,0|b 2,0|c 4,0|d 0,1|e 2,1", "a 0,0|b 2,0|c 0,1|d 2,1|e 0,2", "a 0,0|b 0,1|c 0,2|d 0,3|e 0,4"
	for width, want := range map[int]string{1: one, 2: one, 3: two, 4: two, 5: three, 6: three, 7: four, 8: four, 9: five, 10: five, 1000: five} {
		told(t, fmt.Sprint("five in ", width), grid(page.Across, "a|b|c|d|e", width, 1), want)
	}
	grids(t, "Across", page.Across, []gridCase{
		{"a|b|c|d|e|f", 5, 1, "a 0,0|b 2,0|c 4,0|d 0,1|e 2,1|f 4,1"},
		{"a|b|c|d|e|f", 3, 1, "a 0,0|b 2,0|c 0,1|d 2,1|e 0,2|f 2,2"},
		{"a|b|c|d|e|f|g", 5, 1, "a 0,0|b 2,0|c 4,0|d 0,1|e 2,1|f 4,1|g 0,2"},
	})
}

// P17.2: no texts, one, and such that are longer than the width.
func TestColumnsOfFew(t *testing.T) {
	for name, call := range layouts() {
		for _, width := range []int{1, 2, 999, 1000} {
			for _, gap := range []int{0, 1, 999, 1000} {
				for _, none := range [][]string{nil, {}} {
					l, e := call(none, width, gap)
					told(t, name+" of none", fmt.Sprint(len(l), int(e)), "0 0")
				}
				grids(t, name, call, []gridCase{{"a", width, gap, "a 0,0"}, {"long text", width, gap, "long text 0,0"}})
				l, e := call([]string{""}, width, gap)
				told(t, name+" of an empty text", laid(l)+e.Error(), " 0,0Success")
			}
		}
		long := strings.Repeat("x", 2000)
		grids(t, name, call, []gridCase{
			{"abcdef|x", 3, 0, "abcdef 0,0|x 0,1"},
			{"x|abcdef", 3, 0, "x 0,0|abcdef 0,1"},
			{"a|b|ccccc|d|e", 4, 1, "a 0,0|b 0,1|ccccc 0,2|d 0,3|e 0,4"},
			{long, 1000, 0, long + " 0,0"},
			{"a|" + long, 1000, 1000, "a 0,0|" + long + " 0,1"},
			{long + "|" + long, 1000, 0, long + " 0,0|" + long + " 0,1"},
			{"a||b", 2, 0, "a 0,0| 1,0|b 1,0"},
		})
	}
}

// P17.2: empty texts make columns that have no width.
func TestColumnsOfEmptyTexts(t *testing.T) {
	for name, call := range layouts() {
		grids(t, name, call, []gridCase{
			{"||", 1, 0, " 0,0| 0,0| 0,0"},
			{"||", 2, 1, " 0,0| 1,0| 2,0"},
			{"|", 1, 1, " 0,0| 1,0"},
			{"|", 1, 2, " 0,0| 0,1"},
			{"|", 1000, 1000, " 0,0| 1000,0"},
			{"|", 999, 1000, " 0,0| 0,1"},
			{"|a", 1, 0, " 0,0|a 0,0"},
			{"a|", 1, 0, "a 0,0| 1,0"},
			{"a|", 1, 1, "a 0,0| 0,1"},
			{"a|", 2, 1, "a 0,0| 2,0"},
		})
	}
	grids(t, "Columns", page.Columns, []gridCase{{"||", 1, 1, " 0,0| 0,1| 1,0"}})
	grids(t, "Across", page.Across, []gridCase{{"||", 1, 1, " 0,0| 1,0| 0,1"}})
}

// P17.2: a thousand texts, and one more.
func TestColumnsOfMany(t *testing.T) {
	var row, down, across, single []string
	for i := range 1000 {
		row = append(row, fmt.Sprintf("a %d,0", i))
		down = append(down, fmt.Sprintf("a %d,%d", i/2*2, i%2))
		across = append(across, fmt.Sprintf("a %d,%d", i%500*2, i/500))
		single = append(single, fmt.Sprintf("a 0,%d", i))
	}
	whole := func(l []string) string { return strings.Join(l, "|") }
	many := repeated("a", 1000)
	for name, call := range layouts() {
		grids(t, name, call, []gridCase{
			{many, 1000, 0, whole(row)},
			{many, 1, 0, whole(single)},
			{many, 1000, 1000, whole(single)},
			{many + "|a", 1000, 0, refused},
			{repeated("", 1001), 1, 1, refused},
			{repeated("a", 2000), 1000, 0, refused},
			{repeated("a", 999), 1000, 0, whole(row[:999])},
		})
	}
	grids(t, "Columns", page.Columns, []gridCase{{many, 1000, 1, whole(down)}, {many, 999, 1, whole(down)}})
	grids(t, "Across", page.Across, []gridCase{{many, 1000, 1, whole(across)}, {many, 999, 1, whole(across)}})
}

// P17.2: widths and gaps that may not be.
func TestColumnsRefused(t *testing.T) {
	for name, call := range layouts() {
		for _, texts := range []string{"", "a", "a|bb|c"} {
			for _, n := range append([]int{0, -1, -1000, 1001, 1002, 2000, 1 << 16}, farInts...) {
				grids(t, name, call, []gridCase{{texts, n, 0, refused}, {texts, n, 1000, refused}, {texts, n, n - 1, refused}})
			}
			for _, n := range append([]int{-1, -2, -1000, 1001, 1002, 2000, 1 << 16}, farInts...) {
				grids(t, name, call, []gridCase{{texts, 1, n, refused}, {texts, 1000, n, refused}})
			}
		}
	}
}

// P17.7: neither lets texts overlap, nor go over the width, if none is longer itself.
func TestColumnsDoNotOverlap(t *testing.T) {
	lists := everyList(5, "", "a", "bbb", "cc")
	for name, call := range layouts() {
		for i, l := range lists {
			width, gap := 3+i%9, i%3
			out, e := call(l, width, gap)
			if e != api.OK || len(out) != len(l) {
				t.Fatalf("%s(%q, %d, %d): %v, %d", name, l, width, gap, out, int(e))
			}
			taken := map[complex128]int{}
			for j, x := range out {
				if x.Text != l[j] || real(x.At)+float64(len(x.Text)) > float64(width) {
					t.Fatalf("%s(%q, %d, %d): %s", name, l, width, gap, laid(out))
				}
				for k := range len(x.Text) {
					at := x.At + complex(float64(k), 0)
					if taken[at]++; taken[at] > 1 {
						t.Fatalf("%s(%q, %d, %d): %s: one over the other", name, l, width, gap, laid(out))
					}
				}
			}
		}
	}
}
