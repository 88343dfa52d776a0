package order_test

import (
	"fmt"
	"strings"
	"testing"

	"tinsel/api"
	"tinsel/order"
)

// compares: what Compare answers of two lines, and of the same the other way round.
func compares(t *testing.T, a, b string, o api.Order, want int) {
	t.Helper()
	if got := order.Compare([]byte(a), []byte(b), o); got != want {
		t.Errorf("Compare(%s, %s, %v): %d, want %d", brief(a), brief(b), o, got, want)
	}
	if got := order.Compare([]byte(b), []byte(a), o); got != -want {
		t.Errorf("Compare(%s, %s, %v): %d, want %d", brief(b), brief(a), o, got, -want)
	}
}

// P16.2: byte by byte.
func TestCompareBytes(t *testing.T) {
	rising := []string{"", "\x00", "\x00\x00", "\x00\xff", "\t", " ", "  ", " a", "0", "10", "9", "A", "AB", "B", "_", "a", "a\x00", "a ", "aa", "ab", "abc", "ab\xff", "b", "\x7f", "\x80", "é", "\xff", "\xff\x00", "\xff\xff"}
	for i, a := range rising {
		for j, b := range rising {
			want := max(-1, min(i-j, 1))
			for _, flags := range []int{0, api.SortUnique, api.SortStable, api.SortUnique | api.SortStable} {
				compares(t, a, b, by(flags), want)
				compares(t, a, b, by(flags|api.KeyReverse), -want)
			}
		}
	}
	if order.Compare(nil, []byte{}, api.Order{}) != 0 {
		t.Error("nil and none")
	}
}

// P16.2: each pair of bytes, with each flag alone: small letters as capitals, and those that do not count.
func TestCompareEachByte(t *testing.T) {
	upper := func(c int) int {
		if c >= 'a' && c <= 'z' {
			return c - 32
		}
		return c
	}
	counts := func(c int) bool {
		return c == ' ' || c == '\t' || c >= '0' && c <= '9' || upper(c) >= 'A' && upper(c) <= 'Z'
	}
	dict := func(c int) int {
		if counts(c) {
			return c + 1
		}
		return 0 // behind an x nothing stands ahead of something
	}
	sign := func(n int) int { return max(-1, min(n, 1)) }
	for a := range 256 {
		for b := range 256 {
			x, y := "x"+string([]byte{byte(a)}), "x"+string([]byte{byte(b)})
			compares(t, x, y, by(api.SortStable), sign(a-b))
			compares(t, x, y, by(api.KeyFold|api.SortStable), sign(upper(a)-upper(b)))
			compares(t, x, y, by(api.KeyDict|api.SortStable), sign(dict(a)-dict(b)))
		}
	}
}

// P16.2: KeyFold.
func TestCompareFold(t *testing.T) {
	const fold = api.KeyFold
	compares(t, "a", "A", by(fold|api.SortStable), 0)
	compares(t, "aBc", "AbC", by(fold|api.SortUnique), 0)
	compares(t, "a", "A", by(fold), 1) // at last byte by byte
	compares(t, "A", "a", by(fold|api.KeyReverse), 1)
	compares(t, "a", "B", by(fold), -1)
	compares(t, "A", "b", by(fold), -1)
	compares(t, "b", "A", by(fold|api.KeyReverse), -1)
	compares(t, "a", "_", by(fold), -1) // capitals stand ahead of _
	compares(t, "a", "_", by(0), 1)
	compares(t, "ab", "A", by(fold), 1)
	compares(t, "a", "AB", by(fold), -1)
	compares(t, "{", "[", by(fold|api.SortStable), 1)
	compares(t, "`", "@", by(fold|api.SortStable), 1)
	compares(t, "\xe4", "\xc4", by(fold|api.SortStable), 1)
}

// P16.2: KeyDict.
func TestCompareDict(t *testing.T) {
	const dict = api.KeyDict
	compares(t, "a-b", "ab", by(dict|api.SortStable), 0)
	compares(t, "-a-b-", "!a!b!", by(dict|api.SortUnique), 0)
	compares(t, "a-b", "ab", by(dict), -1) // at last byte by byte
	compares(t, "a-c", "ab", by(dict), 1)
	compares(t, "a-c", "ab", by(0), -1)
	compares(t, "...", "", by(dict|api.SortStable), 0)
	compares(t, "...", "a", by(dict|api.SortStable), -1)
	compares(t, "...a", "b", by(dict|api.SortStable), -1)
	compares(t, "a...", "ab", by(dict|api.SortStable), -1)
	compares(t, "ab", "a...b.", by(dict|api.SortStable), 0)
	compares(t, "a b", "ab", by(dict|api.SortStable), -1) // blanks count
	compares(t, "a\tb", "a b", by(dict|api.SortStable), -1)
	compares(t, "a\nb", "ab", by(dict|api.SortStable), 0) // other white space does not
	compares(t, "a1", "a_2", by(dict|api.SortStable), -1)
	compares(t, "a_b", "A.B", by(dict|api.SortStable), 1)
	compares(t, "a_b", "A.B", by(dict|api.KeyFold|api.SortStable), 0)
	compares(t, "\xff\x00\x80a", "a", by(dict|api.SortStable), 0)
	compares(t, "a-c", "ab", by(dict|api.KeyReverse), -1)
}

// P16.2: with KeyNumeric the numbers alone count, whatever KeyDict and KeyFold say.
func TestCompareNumeric(t *testing.T) {
	for _, more := range []int{0, api.KeyDict, api.KeyFold, api.KeyDict | api.KeyFold, api.KeyBlanks, api.KeyBlanks | api.KeyDict} {
		n := api.KeyNumeric | more
		compares(t, "10", "9", by(n), 1)
		compares(t, "-1", "1", by(n), -1)
		compares(t, "-2", "-1", by(n), -1)
		compares(t, "1.5", "1.25", by(n), 1)
		compares(t, "1a", "1B", by(n|api.SortStable), 0)
		compares(t, "1a", "1B", by(n), 1) // at last byte by byte
		compares(t, "1a", "1B", by(n|api.KeyReverse), -1)
		compares(t, "a", "b", by(n|api.SortUnique), 0)
		compares(t, "9", "10", by(n|api.KeyReverse), 1)
		compares(t, "*1", "0", by(n|api.SortStable), 0) // a 0, as the star is not left out
	}
}

// P16.2: KeyBlanks of the Order: without keys the whole line's part begins behind its blanks.
func TestCompareBlanks(t *testing.T) {
	const b = api.KeyBlanks
	compares(t, "  b", "a", by(b), 1)
	compares(t, "  b", "a", by(0), -1)
	compares(t, "  a", "a", by(b|api.SortStable), 0)
	compares(t, "\ta", " a", by(b|api.SortUnique), 0)
	compares(t, "\ta", " a", by(b), -1)
	compares(t, " ", "", by(b|api.SortStable), 0)
	compares(t, " a b", "a  b", by(b|api.SortStable), 1)
	compares(t, "\na", "a", by(b|api.SortStable), -1)
	compares(t, " a:b", "a:b", api.Order{Sep: ':', Flags: b | api.SortStable}, 0)
	compares(t, "  a", "!", api.Order{Sep: ' ', Flags: b | api.SortStable}, -1) // its first field is empty: no blanks are its own
}

// P16.2: all flags at once, and bits that have no name.
func TestCompareAllFlags(t *testing.T) {
	compares(t, "10", "9", by(allFlags), -1)
	compares(t, "  9a", "9B", by(allFlags), 0)
	compares(t, "a", "b", by(allFlags), 0)
	compares(t, "a", "b", by(allFlags&^api.KeyNumeric), 1)
	compares(t, " -A.b", "a-B", by(allFlags&^api.KeyNumeric), 0)
	for _, more := range []int{128, 256, 1 << 20, 1 << 62, -1 << 63, -128} {
		for flags := range 128 {
			for _, x := range [][2]string{{"a", "B"}, {" b", "a"}, {"10", "9"}, {"a.c", "ab"}, {"a", "A"}, {" a", "a"}, {"9a", "9b"}} {
				compares(t, x[0], x[1], by(flags|more), order.Compare([]byte(x[0]), []byte(x[1]), by(flags)))
			}
		}
	}
}

// P16.2: keys in their turn, till they differ.
func TestCompareKeys(t *testing.T) {
	two := keyed(t, 0, 0, "2,2", "1,1")
	compares(t, "b x", "a y", two, -1)
	compares(t, "b x", "a x", two, 1)
	compares(t, "a x 1", "a x 2", two, -1) // at last byte by byte
	two.Flags = api.SortStable
	compares(t, "a x 1", "a x 2", two, 0)
	two.Flags = api.SortUnique
	compares(t, "a x 1", "a x 2", two, 0)
	compares(t, "b x", "a x", two, 1)
	sep := keyed(t, ':', api.SortStable, "3", "2.2,2.3")
	compares(t, "x:abc:z", "y:bbc:z", sep, 0)
	compares(t, "x:abc:z", "y:bbd:z", sep, -1)
	compares(t, "x:abc:z", "y:abc:a", sep, 1)
	compares(t, "x", "y", sep, 0) // neither has such fields
	compares(t, "x", "y:a", sep, 0)
	compares(t, "x", "y::a", sep, -1)
	many := api.Order{Flags: api.SortStable}
	for i := 20; i > 0; i-- {
		many.Keys = append(many.Keys, api.Key{Field: i, Char: 1, EndField: i})
	}
	line := strings.Repeat("a ", 19)
	compares(t, "b "+line, "a "+line, many, 1)
	compares(t, line+"a", line+"b", many, -1)
	compares(t, "b "+line, "a "+line+"b", many, 1) // the b stands in a 21st field
}

// P16.2: a key without Flags has the Order's; one with Flags has its own alone.
func TestCompareOwnFlags(t *testing.T) {
	stable := api.SortStable
	compares(t, "10", "9", keyed(t, 0, stable|api.KeyNumeric, "1"), 1)
	compares(t, "10", "9", keyed(t, 0, stable|api.KeyNumeric, "1f"), -1)
	compares(t, "10", "9", keyed(t, 0, stable, "1n"), 1)
	compares(t, "a", "b", keyed(t, 0, stable|api.KeyReverse, "1"), 1)
	compares(t, "a", "b", keyed(t, 0, stable|api.KeyReverse, "1f"), -1) // it has Flags: not reversed
	compares(t, "a", "b", keyed(t, 0, stable|api.KeyReverse, "1r"), 1)
	compares(t, "a", "b", keyed(t, 0, stable, "1r"), 1)
	compares(t, "a", "A", keyed(t, 0, stable|api.KeyFold, "1"), 0)
	compares(t, "a", "A", keyed(t, 0, stable|api.KeyFold, "1d"), 1)
	compares(t, "a.b", "ab", keyed(t, 0, stable|api.KeyDict, "1"), 0)
	compares(t, "x  b", "x a", keyed(t, 0, stable, "2"), -1)
	compares(t, "x  b", "x a", keyed(t, 0, stable|api.KeyBlanks, "2"), 1)
	compares(t, "x  b", "x a", keyed(t, 0, stable|api.KeyBlanks, "2f"), -1)
	compares(t, "x  b", "x a", keyed(t, 0, stable, "2b"), 1)
	compares(t, "x  ab", "x ac", keyed(t, 0, stable|api.KeyBlanks, "2.1,2.1"), 0)
	compares(t, "x 1 b", "x 1 a", keyed(t, 0, stable|api.KeyReverse, "2,2n", "3"), -1) // one has its own, the other the Order's
	compares(t, "x 2 b", "x 1 a", keyed(t, 0, stable|api.KeyReverse, "2,2n", "3"), 1)
	nameless := keyed(t, 0, stable|api.KeyReverse, "1")
	for _, flags := range []int{128, api.SortUnique, api.SortStable, -128} { // bits that say nothing in a key are Flags all the same
		nameless.Keys[0].Flags = flags
		compares(t, "a", "b", nameless, -1)
	}
}

// P16.2: at last: byte by byte, with KeyReverse in the Order's Flags, not a key's, the other way round.
func TestCompareAtLast(t *testing.T) {
	compares(t, "x a", "x b", keyed(t, 0, 0, "1,1"), -1)
	compares(t, "x a", "x b", keyed(t, 0, api.KeyReverse, "1,1"), 1)
	compares(t, "x a", "x b", keyed(t, 0, 0, "1,1r"), -1)
	compares(t, "x a", "x b", keyed(t, 0, api.KeyReverse, "1,1f"), 1)
	compares(t, "x a", "x B", keyed(t, 0, api.KeyFold, "1,1"), 1) // no other flag counts at last
	compares(t, "x 10", "x 9", keyed(t, 0, api.KeyNumeric, "1,1"), -1)
	compares(t, "x  b", "x a", keyed(t, 0, api.KeyBlanks, "1,1"), -1)
	compares(t, "x .b", "x a", keyed(t, 0, api.KeyDict, "1,1"), -1)
	for _, flags := range []int{api.SortUnique, api.SortStable, api.SortUnique | api.SortStable} {
		compares(t, "x a", "x b", keyed(t, 0, flags, "1,1"), 0)
		compares(t, "x a", "x b", keyed(t, 0, flags|api.KeyReverse, "1,1"), 0)
	}
	o := keyed(t, 0, 0, "1,1")
	o.Keys[0].Flags = api.SortStable // of a key it says nothing
	compares(t, "x a", "x b", o, -1)
}

// P16.2: of the same lines 0, whatever the Order is.
func TestCompareSame(t *testing.T) {
	for flags := range 256 {
		for _, s := range []string{"", "a", " 1 ", "\x00\xff", "a:b:c", strings.Repeat("x ", 100)} {
			for _, sep := range []byte{0, ':', ' '} {
				compares(t, s, s, api.Order{Sep: sep, Flags: flags}, 0)
				compares(t, s, s, api.Order{Keys: []api.Key{{}, {Field: 2, Char: 9, EndField: 1, EndChar: 1, Flags: flags}}, Sep: sep, Flags: flags}, 0)
			}
		}
	}
}

// P16.2: keys whose numbers are below what counts, and at an int's end.
func TestCompareOddKeys(t *testing.T) {
	for _, n := range farInts {
		o := api.Order{Keys: []api.Key{{Field: n, Char: n, EndField: n, EndChar: n}}, Flags: api.SortStable}
		want := -1
		if n > 0 {
			want = 0
		}
		compares(t, "a b", "a c", o, want)
	}
	compares(t, "a b", "a c", api.Order{Keys: []api.Key{{}}, Flags: api.SortStable}, -1)
	compares(t, "a b", "b a", api.Order{Keys: []api.Key{{Field: 2, EndField: -1, EndChar: 1}}, Flags: api.SortStable}, 1)
	for _, keys := range [][]api.Key{nil, {}} {
		told(t, "no keys", fmt.Sprint(order.Compare([]byte("a"), []byte("b"), api.Order{Keys: keys})), "-1")
	}
}
