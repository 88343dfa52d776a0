package order_test

import (
	"fmt"
	"slices"
	"testing"

	"tinsel/api"
	"tinsel/order"
)

// sorts: what Sort makes of lines; Sorted finds nothing wrong in it, and Sort changes it no more.
func sorts(t *testing.T, lines string, o api.Order, want string) {
	t.Helper()
	l := order.Sort(apart(lines), o)
	told(t, fmt.Sprintf("Sort(%q, %v)", lines, o), whole(l), want)
	if n := order.Sorted(l, o); n != -1 {
		t.Errorf("Sorted of Sort(%q, %v): %d", lines, o, n)
	}
	told(t, fmt.Sprintf("Sort of Sort(%q, %v)", lines, o), whole(order.Sort(l, o)), want)
}

// P16.2, P16.6: the lines in order.
func TestSort(t *testing.T) {
	sorts(t, "", by(0), "")
	sorts(t, "a", by(0), "a")
	sorts(t, "a|b", by(0), "a|b")
	sorts(t, "b|a", by(0), "a|b")
	sorts(t, "c|b|a", by(0), "a|b|c")
	sorts(t, "b|a|c", by(0), "a|b|c")
	sorts(t, "b|a|b|a", by(0), "a|a|b|b")
	sorts(t, "10|9|a", by(api.KeyNumeric), "a|9|10")
	sorts(t, "b|a|B", by(api.KeyFold), "a|B|b")
	sorts(t, "b||a|", by(0), "||a|b")
	sorts(t, "a|b|c", by(api.KeyReverse), "c|b|a")
	sorts(t, "3|-1|2.5|10|x", by(api.KeyNumeric|api.KeyReverse), "10|3|2.5|x|-1")
	sorts(t, "a-c|ab|a.a", by(api.KeyDict), "a.a|ab|a-c")
	sorts(t, " b|a| c", by(api.KeyBlanks), "a| b| c")
	sorts(t, "\xff|\x00|a", by(0), "\x00|a|\xff")
	sorts(t, "x 2|y 1|z 3", keyed(t, 0, 0, "2"), "y 1|x 2|z 3")
	sorts(t, "x:2|y:10|z:3", keyed(t, ':', 0, "2n"), "x:2|z:3|y:10")
	sorts(t, "x:2:b|y:10:a|z:2:a", keyed(t, ':', 0, "2,2n", "3,3r"), "x:2:b|z:2:a|y:10:a")
}

// P16.2: lines that are equal but not the same: as they stood, or the first one alone, or byte by byte.
func TestSortEqual(t *testing.T) {
	const lines = "b|A|B|a|b|a"
	sorts(t, lines, by(api.KeyFold), "A|a|a|B|b|b")
	sorts(t, lines, by(api.KeyFold|api.KeyReverse), "b|b|B|a|a|A")
	sorts(t, lines, by(api.KeyFold|api.SortStable), "A|a|a|b|B|b")
	sorts(t, lines, by(api.KeyFold|api.SortStable|api.KeyReverse), "b|B|b|A|a|a")
	sorts(t, lines, by(api.KeyFold|api.SortUnique), "A|b")
	sorts(t, lines, by(api.KeyFold|api.SortUnique|api.KeyReverse), "b|A")
	sorts(t, lines, by(api.KeyFold|api.SortUnique|api.SortStable), "A|b")
	sorts(t, lines, by(api.SortUnique), "A|B|a|b")
	sorts(t, lines, by(api.SortStable), "A|B|a|a|b|b")
	sorts(t, "x 3|y 3|a 1|z 3|b 1", keyed(t, 0, 0, "2"), "a 1|b 1|x 3|y 3|z 3")
	sorts(t, "z 3|y 3|b 1|x 3|a 1", keyed(t, 0, api.SortStable, "2"), "b 1|a 1|z 3|y 3|x 3")
	sorts(t, "z 3|y 3|b 1|x 3|a 1", keyed(t, 0, api.SortStable, "2r"), "z 3|y 3|x 3|b 1|a 1")
	sorts(t, "z 3|y 3|b 1|x 3|a 1", keyed(t, 0, api.SortUnique, "2"), "b 1|z 3")
	sorts(t, "01|1|1.0|a|0", by(api.KeyNumeric|api.SortUnique), "a|01")
	sorts(t, "|x|", by(api.SortUnique), "|x")
	sorts(t, "a|a|a", by(api.SortUnique), "a")
	sorts(t, "a|a|a", by(0), "a|a|a")
}

// sortedTo: what Sorted answers.
func sortedTo(t *testing.T, lines string, o api.Order, want int) {
	t.Helper()
	if n := order.Sorted(apart(lines), o); n != want {
		t.Errorf("Sorted(%q, %v): %d, want %d", lines, o, n, want)
	}
}

// P16.2: the first line that is less than the one ahead of it.
func TestSorted(t *testing.T) {
	sortedTo(t, "", by(0), -1)
	sortedTo(t, "a", by(0), -1)
	sortedTo(t, "a|b", by(0), -1)
	sortedTo(t, "b|a", by(0), 1)
	sortedTo(t, "a|c|b|a", by(0), 2)
	sortedTo(t, "a|b|c|b", by(0), 3)
	sortedTo(t, "a|c|b|c|b", by(0), 2)
	sortedTo(t, "a|b|a|z", by(0), 2) // less than the one ahead, not than the first one
	sortedTo(t, "a|", by(0), 1)
	sortedTo(t, "|a", by(0), -1)
	sortedTo(t, "a|a|b|b", by(0), -1)
	sortedTo(t, "a|a|b|b", by(api.SortStable), -1)
	sortedTo(t, "a|b|b|a", by(api.SortUnique), 2) // equal to the one ahead
	sortedTo(t, "a|a", by(api.SortUnique), 1)
	sortedTo(t, "a|b|c", by(api.SortUnique), -1)
	sortedTo(t, "|", by(api.SortUnique), 1)
	sortedTo(t, "b|a", by(api.KeyReverse), -1)
	sortedTo(t, "a|b", by(api.KeyReverse), 1)
	sortedTo(t, "9|10", by(api.KeyNumeric), -1)
	sortedTo(t, "9|10", by(0), 1)
	sortedTo(t, "a|A", by(api.KeyFold|api.SortStable), -1)
	sortedTo(t, "a|A", by(api.KeyFold|api.SortUnique), 1)
	sortedTo(t, "a|A", by(api.KeyFold|api.SortUnique|api.SortStable), 1)
	sortedTo(t, "a|A", by(api.KeyFold), 1) // at last byte by byte
	sortedTo(t, "A|a", by(api.KeyFold), -1)
	sortedTo(t, "A|a", by(api.KeyFold|api.KeyReverse), 1)
	sortedTo(t, "y 1|x 2", keyed(t, 0, 0, "2"), -1)
	sortedTo(t, "y 1|x 1", keyed(t, 0, 0, "2"), 1)
	sortedTo(t, "y 1|x 1", keyed(t, 0, api.SortStable, "2"), -1)
	sortedTo(t, "y:1|x:2|z:0", keyed(t, ':', api.SortStable, "2"), 2)
}

// someOrders: of many kinds.
func someOrders() []api.Order {
	var l []api.Order
	for flags := range 128 {
		l = append(l, by(flags))
	}
	for _, flags := range []int{0, api.KeyReverse, api.KeyFold | api.SortStable, api.SortUnique, api.KeyNumeric | api.SortStable, api.KeyBlanks | api.KeyDict, allFlags, -1, 128} {
		for _, sep := range []byte{0, ':', ' '} {
			l = append(l,
				api.Order{Keys: []api.Key{{Field: 2, Char: 1, EndField: 2}}, Sep: sep, Flags: flags},
				api.Order{Keys: []api.Key{{Field: 1, Char: 2, Flags: api.KeyFold | api.KeyReverse}, {Field: 1, Char: 1}}, Sep: sep, Flags: flags},
				api.Order{Keys: []api.Key{{Field: 2, Char: 1, EndField: 2, EndChar: 1, Flags: api.KeyBlanks}, {Field: 1, Char: 1, EndField: 1, Flags: api.KeyNumeric}}, Sep: sep, Flags: flags})
		}
	}
	return l
}

// P16.6: Sort's lines are the given ones, in another order; Sorted of them is -1; Sort of Sort is Sort; equal ones as they stood.
func TestWhatSortTells(t *testing.T) {
	for _, o := range someOrders() {
		for _, l := range everyList(4, "a", "B b", "b 1", " 1:a", "") {
			got := order.Sort(l, o)
			if n := order.Sorted(got, o); n != -1 {
				t.Fatalf("Sorted of %q: %d by %v", got, n, o)
			}
			told(t, "Sort of Sort", whole(order.Sort(got, o)), whole(got))
			for i := 1; i < len(got); i++ {
				n := order.Compare(got[i-1], got[i], o)
				if n > 0 || n == 0 && o.Flags&api.SortUnique != 0 {
					t.Fatalf("Sort(%q, %v): %q", l, o, got)
				}
			}
			for _, x := range l { // each one's equals, in the order in which they stood
				var had, has []string
				for _, y := range l {
					if order.Compare(x, y, o) == 0 {
						had = append(had, string(y))
					}
				}
				for _, y := range got {
					if order.Compare(x, y, o) == 0 {
						has = append(has, string(y))
					}
				}
				if o.Flags&api.SortUnique != 0 {
					had = had[:1]
				}
				if !slices.Equal(had, has) {
					t.Fatalf("Sort(%q, %v): %q: of %q %q, want %q", l, o, got, x, has, had)
				}
			}
			if o.Flags&api.SortUnique == 0 && len(got) != len(l) {
				t.Fatalf("Sort(%q, %v): %q", l, o, got)
			}
		}
	}
}

// P16.6: many lines, equal ones as they stood: their numbers rise.
func TestSortMany(t *testing.T) {
	for _, n := range []int{2, 3, 7, 8, 9, 64, 100, 1000, 4097} {
		var l [][]byte
		for i := range n {
			l = append(l, fmt.Appendf(nil, "%d %06d", i*i%7, i))
		}
		got := order.Sort(l, keyed(t, 0, api.SortStable, "1,1"))
		want := slices.Clone(l)
		slices.SortFunc(want, func(a, b []byte) int { return slices.Compare(a, b) })
		same(t, fmt.Sprint(n, " lines"), got, want)
		slices.Reverse(l)
		got = order.Sort(l, keyed(t, 0, api.SortStable, "1,1r"))
		slices.Reverse(want)
		same(t, fmt.Sprint(n, " lines backwards"), got, want)
		if n >= 7 {
			same(t, fmt.Sprint("unique of ", n), len(order.Sort(l, keyed(t, 0, api.SortUnique, "1,1"))), 4) // the squares by 7: 0, 1, 2, 4
		}
	}
}
