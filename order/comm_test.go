package order_test

import (
	"bytes"
	"fmt"
	"math"
	"slices"
	"testing"

	"tinsel/api"
	"tinsel/order"
)

// comms: what Comm tells, tabs as >.
func comms(a, b string, hide int) string {
	return string(bytes.ReplaceAll([]byte(whole(order.Comm(apart(a), apart(b), hide))), []byte("\t"), []byte(">")))
}

// P16.4: the three columns.
func TestComm(t *testing.T) {
	for _, x := range []struct{ a, b, want string }{
		{"", "", ""}, {"a", "", "a"}, {"", "a", ">a"}, {"a", "a", ">>a"}, {"a|b", "b|c", "a|>>b|>c"}, {"a|b|c", "a|b|c", ">>a|>>b|>>c"}, {"a|c", "b|d", "a|>b|c|>d"}, {"b|d", "a|c", ">a|b|>c|d"}, {"a|b", "c", "a|b|>c"}, {"c", "a|b", ">a|>b|c"},
		{"a|a", "a", ">>a|a"}, {"a", "a|a", ">>a|>a"}, {"a|a", "a|a", ">>a|>>a"}, {"a|a|b", "a|b|b", ">>a|a|>>b|>b"}, {"ab", "a", ">a|ab"}, {"\x00", "\xff", "\x00|>\xff"}, {"A|b", "a|B", "A|>a|>B|b"}, {"|a", "|a", ">>|>>a"}, {"|", "a", "||>a"}, {"10|9", "9", "10|>>9"},
	} {
		told(t, fmt.Sprintf("Comm(%q, %q)", x.a, x.b), comms(x.a, x.b, 0), x.want)
	}
	l := order.Comm([][]byte{nil}, [][]byte{{}}, 0)
	same(t, "empty lines", l, list("\t\t"))
}

// P16.4: lists that are not sorted: just as told.
func TestCommOfAnyLists(t *testing.T) {
	for _, x := range []struct{ a, b, want string }{
		{"b|a", "b|a", ">>b|>>a"}, {"b|a", "a|b", ">a|>>b|a"}, {"a|b", "b|a", "a|>>b|>a"}, {"c|a", "b", ">b|c|a"}, {"z|a|m", "m|z", ">m|>>z|a|m"}, {"b|a|b", "a", ">a|b|a|b"},
	} {
		told(t, fmt.Sprintf("Comm(%q, %q)", x.a, x.b), comms(x.a, x.b, 0), x.want)
	}
}

// P16.4: hidden columns are left out, and have no tab.
func TestCommHidden(t *testing.T) {
	for hide, want := range []string{
		"a|>>b|>c", ">b|c", "a|>b", "b", "a|>c", "c", "a", "",
	} {
		for _, more := range []int{0, 8, 16, 8 + 32, 1 << 40, math.MinInt, -8} {
			told(t, fmt.Sprint("hide ", hide|more), comms("a|b", "b|c", hide|more), want)
		}
	}
	told(t, "hide -1", comms("a|b", "b|c", -1), "")
	told(t, "hide MaxInt", comms("a|b", "b|c", math.MaxInt), "")
	told(t, "hide MinInt", comms("a|b", "b|c", math.MinInt), "a|>>b|>c")
}

// P16.9: of sorted lists columns 1 and 3 are a, 2 and 3 are b; hidden ones are those of all without them.
func TestWhatCommTells(t *testing.T) {
	all := everyList(3, "", "a", "A", "ab")
	for _, a := range all {
		a = order.Sort(a, api.Order{})
		for _, b := range all {
			b = order.Sort(b, api.Order{})
			var column [3][][]byte
			for _, line := range order.Comm(a, b, 0) {
				text := bytes.TrimLeft(line, "\t")
				n := len(line) - len(text)
				if n == 2 {
					column[2] = append(column[2], text)
				} else {
					column[n] = append(column[n], text)
				}
			}
			ofA := order.Merge(api.Order{}, column[0], column[2])
			ofB := order.Merge(api.Order{}, column[1], column[2])
			if !slices.EqualFunc(ofA, a, bytes.Equal) || !slices.EqualFunc(ofB, b, bytes.Equal) {
				t.Fatalf("%q, %q: %q", a, b, column)
			}
			for i, hide := range []int{6, 5, 3} {
				if got := order.Comm(a, b, hide); !slices.EqualFunc(got, column[i], bytes.Equal) {
					t.Fatalf("Comm(%q, %q, %d): %q, want %q", a, b, hide, got, column[i])
				}
			}
		}
	}
}
