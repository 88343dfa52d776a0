package order_test

import (
	"fmt"
	"slices"
	"testing"

	"tinsel/api"
	"tinsel/order"
)

// merges: what Merge makes of lists.
func merges(t *testing.T, o api.Order, want string, lists ...string) {
	t.Helper()
	var l [][][]byte
	for _, s := range lists {
		l = append(l, apart(s))
	}
	told(t, fmt.Sprintf("Merge(%v, %q)", o, lists), whole(order.Merge(o, l...)), want)
}

// P16.2: lists that are sorted.
func TestMerge(t *testing.T) {
	merges(t, by(0), "")
	merges(t, by(0), "", "")
	merges(t, by(0), "", "", "", "")
	merges(t, by(0), "a|b", "a|b")
	merges(t, by(0), "a|b", "", "a|b", "")
	merges(t, by(0), "a|b|c|d", "a|c", "b|d")
	merges(t, by(0), "a|b|c|d", "b|d", "a|c")
	merges(t, by(0), "a|b|c|d", "c|d", "a|b")
	merges(t, by(0), "a|b|c|d|e|f", "c", "b|f", "a|d", "e")
	merges(t, by(0), "a|a|a|b|b", "a|b", "a", "a|b")
	merges(t, by(api.KeyReverse), "d|c|b|a", "c|a", "d|b")
	merges(t, by(api.KeyNumeric), "1|2|10|20", "2|10", "1|20")
	merges(t, keyed(t, ':', 0, "2n"), "x:1|y:2|z:10", "x:1|z:10", "y:2")
	merges(t, by(0), "|a", "|a")
	if l := order.Merge(by(0), nil, [][]byte{}, nil); len(l) != 0 {
		t.Errorf("no lines: %q", l)
	}
}

// P16.2: of equal ones that of the list that stands ahead.
func TestMergeEqual(t *testing.T) {
	stable := api.KeyFold | api.SortStable
	merges(t, by(stable), "a|A", "a", "A")
	merges(t, by(stable), "A|a", "A", "a")
	merges(t, by(stable), "a|A|b|B", "a|b", "A|B")
	merges(t, by(stable), "a1|A1|a1|A1|a1", "a1", "A1", "a1", "A1", "a1")
	merges(t, by(stable), "b|B|b|B|c", "b", "B|c", "b|B")
	merges(t, by(stable), "a|A|A|a", "a|A", "A|a")
	merges(t, by(stable|api.KeyReverse), "b|B|a|A", "b|a", "B|A")
	merges(t, by(api.KeyFold), "A|a", "a", "A") // without SortStable they differ by bytes
	merges(t, keyed(t, 0, api.SortStable, "1,1n"), "1 c|1 a|1 b|2 a", "1 c", "1 a|2 a", "1 b")
}

// P16.2: SortUnique: those that are equal to the one told last are left out.
func TestMergeUnique(t *testing.T) {
	u := api.SortUnique
	merges(t, by(u), "a|b|c", "a|b", "b|c", "a")
	merges(t, by(u), "a|b", "a|a|b|b")
	merges(t, by(u), "a", "a", "a", "a")
	merges(t, by(u), "", "", "")
	merges(t, by(u), "", "", "")
	merges(t, by(u|api.KeyFold), "a|B", "a", "A|B", "b")
	merges(t, by(u|api.KeyFold), "A|b", "A", "a|b", "B")
	merges(t, by(u|api.KeyNumeric), "x|01|2", "x|01", "0|1|2")
	merges(t, by(u|api.KeyReverse), "b|a", "b|a", "b|a")
	merges(t, by(u|api.SortStable), "a|b", "a|b", "a|b")
	merges(t, by(u), "|a", "|a", "|")
}

// P16.2: lists that are not sorted: always the least of their first ones.
func TestMergeOfAnyLists(t *testing.T) {
	merges(t, by(0), "b|a", "b|a")
	merges(t, by(0), "b|a|c", "b|a", "c")
	merges(t, by(0), "b|a|c", "c", "b|a")
	merges(t, by(0), "b|c|a|d", "c|a", "b|d")
	merges(t, by(0), "b|c|a|c|b", "c|a", "b|c|b")
	merges(t, by(0), "a|z|a|z|a", "z|a", "a|z|a")
	merges(t, by(0), "c|b|a|d|a|e|f", "d|a", "e", "c|b|a|f")
	merges(t, by(api.SortUnique), "b|a|b", "b|a|b")
	merges(t, by(api.SortUnique), "b|a|b", "b|b|a|a|b")
	merges(t, by(api.SortUnique), "5|3|5", "5|3", "5") // the other list's 5 comes behind the 3
	merges(t, by(api.SortUnique), "5|3", "5|5|3")
}

// P16.7: Merge of lists that Sort told is Sort of all their lines, one list behind the other.
func TestMergeOfSort(t *testing.T) {
	short := everyList(2, "a", "A", "b 1", " 1")
	for _, o := range someOrders() {
		for i, a := range short {
			for j, b := range short {
				c := short[(i*5+j*3)%len(short)]
				got := order.Merge(o, order.Sort(a, o), order.Sort(b, o), order.Sort(c, o))
				want := order.Sort(slices.Concat(a, b, c), o)
				if whole(got) != whole(want) || len(got) != len(want) {
					t.Fatalf("%q, %q, %q by %v: %q, want %q", a, b, c, o, got, want)
				}
			}
		}
	}
}

// P16.2, R1: many lists; of equal lines those of the lists ahead come first.
func TestMergeMany(t *testing.T) {
	for _, n := range []int{1, 2, 3, 5, 8, 100, 1 << 16} {
		l := make([][][]byte, n)
		var want [][]byte
		for i := range l {
			l[i] = [][]byte{fmt.Appendf(nil, "1 %d", i), fmt.Appendf(nil, "2 %d", i)}
			want = append(want, l[i][0])
		}
		for i := range l {
			want = append(want, l[i][1])
		}
		same(t, fmt.Sprint(n, " lists"), order.Merge(keyed(t, 0, api.SortStable, "1,1"), l...), want)
		same(t, fmt.Sprint(n, " lists, unique"), order.Merge(keyed(t, 0, api.SortUnique, "1,1"), l...), list("1 0", "2 0"))
	}
}
