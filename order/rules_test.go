package order_test

import (
	"bytes"
	"fmt"
	"math"
	"slices"
	"strings"
	"sync"
	"testing"

	"tinsel/api"
	"tinsel/order"
)

// The chapter's examples.
func TestExamples(t *testing.T) {
	told(t, "ParseKey", parsed("2.3nr,4"), fmt.Sprint("2 3 4 0 ", api.KeyNumeric|api.KeyReverse, " 0"))
	told(t, "ParseKey", parsed("0"), noKey)
	parts(t, "a bc d", 0, 2, 1, 2, 0, 0, " bc")
	parts(t, "a bc d", 0, 2, 1, 2, 1, api.KeyBlanks, "b")
	told(t, "Number", numbered(" -007.50"), "-7.5")
	sorts(t, "10|9|a", by(api.KeyNumeric), "a|9|10")
	sorts(t, "b|a|B", by(api.KeyFold), "a|B|b")
	told(t, "Uniq", uniqs("a|a|b|a", 0, 0, false), "a|b|a [2 1 1]")
	told(t, "Comm", comms("a|b", "b|c", 0), "a|>>b|>c")
	told(t, "Join", joins("1 x|2 y", "2 z", 1, 1, 0, 1), "1 x|2 y z")
}

// given is what calls are given.
type given struct {
	a, b [][]byte
	more [][][]byte
	o    api.Order
	key  api.Key
	s    string
	n, m int
	sep  byte
	flag bool
}

// call is one of the layer's, with all that it answers as lists of bytes.
type call struct {
	name string
	do   func(g given) [][]byte
}

// line: the first one of a list.
func line(l [][]byte) []byte {
	if len(l) == 0 {
		return nil
	}
	return l[0]
}

// everyCall: all of them.
func everyCall() []call {
	return []call{
		{"ParseKey", func(g given) [][]byte { return list(parsed(g.s)) }},
		{"Part", func(g given) [][]byte { return [][]byte{order.Part(line(g.a), g.key, g.sep)} }},
		{"Part of the Order's", func(g given) [][]byte {
			if len(g.o.Keys) == 0 {
				return nil
			}
			return [][]byte{order.Part(line(g.b), g.o.Keys[0], g.o.Sep)}
		}},
		{"Number", func(g given) [][]byte {
			below, digits, decimals := order.Number(line(g.a))
			return [][]byte{digits, decimals, fmt.Append(nil, below)}
		}},
		{"Compare", func(g given) [][]byte { return list(fmt.Sprint(order.Compare(line(g.a), line(g.b), g.o))) }},
		{"Sort", func(g given) [][]byte { return order.Sort(g.a, g.o) }},
		{"Sorted", func(g given) [][]byte { return list(fmt.Sprint(order.Sorted(g.a, g.o))) }},
		{"Merge", func(g given) [][]byte { return order.Merge(g.o, g.more...) }},
		{"Merge of one", func(g given) [][]byte { return order.Merge(g.o, g.a) }},
		{"Merge of the same", func(g given) [][]byte { return order.Merge(g.o, g.a, g.a) }},
		{"Uniq", func(g given) [][]byte {
			l, n := order.Uniq(g.a, g.n, g.m, g.flag)
			return append(l, fmt.Append(nil, n))
		}},
		{"Comm", func(g given) [][]byte { return order.Comm(g.a, g.b, g.n) }},
		{"Comm of the same", func(g given) [][]byte { return order.Comm(g.a, g.a, g.n&3) }},
		{"Join", func(g given) [][]byte {
			l, e := order.Join(g.a, g.b, g.n, g.m, g.sep, g.key.Flags)
			return append(l, fmt.Append(nil, int(e)))
		}},
		{"Join of the same", func(g given) [][]byte {
			l, e := order.Join(g.a, g.a, 1, 1, g.sep, 3)
			return append(l, fmt.Append(nil, int(e)))
		}},
	}
}

// oddGiven: lists of many kinds, with all else drawn by turns.
func oddGiven() []given {
	lists := [][][]byte{
		nil, {}, {nil}, {{}}, {nil, {}, nil}, list("a"), list("a", "a"), list("b", "a"), list("", "", "a"), list("\x00", "\xff", "\x00\xff"), list("a b c", "a  b", " a\tb", "\t", "   "), list("a:b", ":", "::", "a:", ":b"), list("10", "9", "-1", "-0", ".5", "x", "1.50"),
		list("é", "\u00a0", "a\nb", "\n"), list("1 x", "1 y", "2 z", "1 w"), list(strings.Repeat("9", 300), strings.Repeat("0", 300)+".1", "-"+strings.Repeat("8", 299)), list(strings.Repeat("a ", 200), strings.Repeat("a:", 200), strings.Repeat(" ", 200)),
	}
	numbers := append([]int{0, 1, 2, 3, 7, 8, 64, 255, -1, -2}, farInts...)
	keys := []string{"", "1", "2.3nr,4", "1,1", "0", "1.0", ",", "999999999.999999999bdfnr,999999999.0", "1234567890", "\x00", "\xff", strings.Repeat("1", 100)}
	orders := append(someOrders(), api.Order{Keys: make([]api.Key, 3)}, api.Order{Keys: []api.Key{{}, {Field: math.MaxInt, Char: math.MaxInt, EndField: math.MaxInt, EndChar: math.MaxInt, Flags: math.MaxInt}, {Field: math.MinInt, Char: math.MinInt, EndField: math.MinInt, EndChar: math.MinInt, Flags: math.MinInt}}, Sep: 255, Flags: -1})
	var l []given
	for i, a := range lists {
		for j, b := range lists {
			k := 31*i + 17*j
			at := func(n int) int { return numbers[(k+n*i+j)%len(numbers)] }
			l = append(l, given{a, b, [][][]byte{a, b, lists[(i+j)%len(lists)], nil, a}[:k%6], orders[k%len(orders)], api.Key{Field: at(1), Char: at(2), EndField: at(3), EndChar: at(5), Flags: at(7)}, keys[k%len(keys)], at(11), at(13), []byte{0, ':', ' ', 'a', 255}[k%5], k%2 == 0})
			l = append(l, given{a, b, [][][]byte{b, a}, by([]int{api.SortUnique, api.SortStable, 0}[k%3]), api.Key{Field: 1, Char: 1, EndField: k % 3, Flags: 3}, "1", 1 + k%2, 1 + j%2, []byte{0, ':', ' '}[k%3], k%2 == 0})
		}
	}
	return l
}

// R1, R4: no call panics, each ends, and says the same again.
func TestOddArguments(t *testing.T) {
	for _, g := range oddGiven() {
		for _, c := range everyCall() {
			same(t, c.name, c.do(g), c.do(g))
		}
	}
}

// emptied: nil for each empty list, or an empty one for each nil.
func emptied(g given, toNil bool) given {
	turn := func(l [][]byte) [][]byte {
		if len(l) == 0 {
			return map[bool][][]byte{true: nil, false: {}}[toNil]
		}
		l = slices.Clone(l)
		for i, b := range l {
			if len(b) == 0 {
				l[i] = map[bool][]byte{true: nil, false: {}}[toNil]
			}
		}
		return l
	}
	g.a, g.b, g.more = turn(g.a), turn(g.b), slices.Clone(g.more)
	for i, l := range g.more {
		g.more[i] = turn(l)
	}
	if len(g.more) == 0 {
		g.more = map[bool][][][]byte{true: nil, false: {}}[toNil]
	}
	if len(g.o.Keys) == 0 {
		g.o.Keys = map[bool][]api.Key{true: nil, false: {}}[toNil]
	}
	return g
}

// R3: nil and empty lists are the same.
func TestNoLists(t *testing.T) {
	for _, g := range oddGiven() {
		for _, c := range everyCall() {
			same(t, c.name, c.do(emptied(g, true)), c.do(emptied(g, false)))
		}
	}
}

// R2, R7: beside an error stands nothing.
func TestNothingBesideAnError(t *testing.T) {
	for _, s := range []string{"1.2nr,3.4x", "1.2nr,0", "1.2nr,", "1n.", "9.0", "5,6,7"} {
		if k, e := order.ParseKey(s); k != (api.Key{}) || e != api.EINVAL {
			t.Errorf("ParseKey(%q): %v, %d", s, k, int(e))
		}
	}
	for _, x := range [][2]int{{0, 1}, {1, 0}, {-1, 1}, {1, -1}, {0, 0}} {
		if l, e := order.Join(list("1 x"), list("1 y"), x[0], x[1], 0, 3); len(l) != 0 || e != api.EINVAL {
			t.Errorf("Join by %v: %q, %d", x, l, int(e))
		}
	}
}

// roomy: a copy of a list, with other things in the room behind its end, and all of that room.
func roomy[E any](l []E, other ...E) ([]E, []E) {
	all := append(slices.Clone(l), other...)
	return all[:len(l)], all
}

// roomyLines: likewise of lines, each of which has room.
func roomyLines(l [][]byte) ([][]byte, func() string) {
	short, all := roomy(l, []byte("beyond"), []byte("a"))
	inner := make([][]byte, len(l))
	for i, x := range l {
		short[i], inner[i] = roomy(x, []byte(" room:behind 1")...)
	}
	return short, func() string { return fmt.Sprintf("%q %q", all, inner) }
}

// R3: what is handed in is not changed, nor what lies behind its end, which is not looked at.
func TestHandedInStays(t *testing.T) {
	for _, g := range oddGiven() {
		for _, c := range everyCall() {
			h := g
			var seen []func() string
			look := func(l [][]byte) [][]byte {
				short, tell := roomyLines(l)
				seen = append(seen, tell)
				return short
			}
			h.a, h.b = look(g.a), look(g.b)
			var keys []api.Key
			h.o.Keys, keys = roomy(g.o.Keys, api.Key{Field: 2, Flags: 3})
			var more [][][]byte
			h.more, more = roomy(g.more, list("beyond"))
			for i, l := range g.more {
				h.more[i] = look(l)
			}
			picture := func() string {
				s := fmt.Sprintf("%v %q ", keys, more)
				for _, tell := range seen {
					s += tell()
				}
				return s
			}
			had := picture()
			same(t, c.name+" with room", c.do(h), c.do(g))
			told(t, c.name+": what was handed in", picture(), had)
		}
		if t.Failed() {
			return
		}
	}
}

// spoil: all that belongs to a line, its spare room too.
func spoil(b []byte) {
	b = b[:cap(b)]
	for i := range b {
		b[i] = '#'
	}
}

// spoilLines: all that belongs to a list, likewise.
func spoilLines(l [][]byte) {
	l = l[:cap(l)]
	for i := range l {
		spoil(l[i])
		l[i] = []byte("#")
	}
}

// own: what is given, in memory of its own.
func own(g given) given {
	mine := func(l [][]byte) [][]byte {
		l = slices.Clone(l)
		for i, b := range l {
			l[i] = bytes.Clone(b)
		}
		return l
	}
	g.a, g.b, g.more = mine(g.a), mine(g.b), slices.Clone(g.more)
	for i, l := range g.more {
		g.more[i] = mine(l)
	}
	g.o.Keys = slices.Clone(g.o.Keys)
	return g
}

// R3: an answer is new memory: neither what was handed in nor another answer changes by it, nor one of its lists by another.
func TestAnswerIsNew(t *testing.T) {
	for _, g := range oddGiven() {
		for _, c := range everyCall() {
			h := own(g)
			picture := func(g given) string { return fmt.Sprintf("%q %q %q %v", g.a, g.b, g.more, g.o) }
			first := c.do(h)
			want := fmt.Sprintf("%q", first)
			spoilLines(c.do(h))
			told(t, c.name+": what was handed in", picture(h), picture(g))
			told(t, c.name+": the first answer", fmt.Sprintf("%q", first), want)
			spoilLines(h.a)
			spoilLines(h.b)
			for i := range h.more {
				spoilLines(h.more[i])
				h.more[i] = nil
			}
			for i := range h.o.Keys {
				h.o.Keys[i] = api.Key{Field: 3}
			}
			told(t, c.name+": behind other arguments", fmt.Sprintf("%q", first), want)
			had := texts(first)
			for i, b := range first {
				spoil(b)
				for j := i + 1; j < len(first); j++ {
					told(t, c.name+": another list of the answer", string(first[j]), had[j])
				}
			}
		}
		if t.Failed() {
			return
		}
	}
}

// R3: lists that answer with nothing changed are new, too: one list that is sorted, one that is merged alone.
func TestListsAreNew(t *testing.T) {
	l := list("a", "b", "c")
	counted, counts := order.Uniq(l, 0, 0, false)
	joined, _ := order.Join(l, nil, 1, 1, ':', 1)
	for name, got := range map[string][][]byte{
		"Sort": order.Sort(l, by(0)), "Sort of one": order.Sort(l[:1], by(0)), "Merge": order.Merge(by(0), l), "Merge with nothing": order.Merge(by(0), nil, l, nil), "Uniq": counted, "Comm": order.Comm(l, nil, 0), "Join": joined,
		"Part": {order.Part(l[0], api.Key{Field: 1, Char: 1}, 0)},
	} {
		spoilLines(got)
		same(t, name, l, list("a", "b", "c"))
	}
	_, again := order.Uniq(l, 0, 0, false)
	counts[0] = 9
	same(t, "counts", again, []int{1, 1, 1})
	args := [][][]byte{list("b"), list("a")}
	order.Merge(by(0), args...)
	same(t, "the lists of lists", args, [][][]byte{list("b"), list("a")})
	below, digits, decimals := order.Number([]byte("-12.34"))
	spoil(digits)
	told(t, "decimals", fmt.Sprint(below, string(decimals)), "true34")
}

// R4: the same answers, whoever else asks at the same time.
func TestManyAtOnce(t *testing.T) {
	all := oddGiven()
	picture := func(g given) string {
		var b strings.Builder
		for _, c := range everyCall() {
			fmt.Fprintf(&b, "%s %q ", c.name, c.do(g))
		}
		return b.String()
	}
	want := make([]string, len(all))
	for i, g := range all {
		want[i] = picture(g)
	}
	got := make([]string, 2*len(all))
	var wait sync.WaitGroup
	for i := range got {
		wait.Go(func() { got[i] = picture(all[i%len(all)]) })
	}
	wait.Wait()
	for i := range got {
		told(t, "at once", got[i], want[i%len(all)])
	}
}

// R1: many lines are gone through in a short time, rising, falling, mixed and equal.
func TestManyLines(t *testing.T) {
	const n = 1 << 18
	var rising, mixed, equal [][]byte
	for i := range n {
		rising = append(rising, fmt.Appendf(nil, "%06d x", i))
		mixed = append(mixed, fmt.Appendf(nil, "%06d x", i*77773%n)) // an odd factor: each number once
		equal = append(equal, []byte("x"))
	}
	want := whole(rising)
	told(t, "rising", whole(order.Sort(rising, by(0))), want)
	told(t, "mixed", whole(order.Sort(mixed, by(0))), want)
	told(t, "by numbers", whole(order.Sort(mixed, keyed(t, 0, api.SortStable, "2,2", "1,1n"))), want)
	falling := order.Sort(mixed, by(api.KeyReverse))
	told(t, "falling", whole(order.Sort(falling, by(api.SortUnique))), want)
	told(t, "equal", whole(order.Sort(equal, by(api.SortStable))), whole(equal))
	told(t, "unique", whole(order.Sort(equal, by(api.SortUnique))), "x")
	told(t, "Merge", whole(order.Merge(by(api.SortUnique), rising, rising, rising)), want)
	if at := order.Sorted(rising, by(0)); at != -1 {
		t.Error("Sorted", at)
	}
	l, counts := order.Uniq(equal, 1, 1, true)
	told(t, "Uniq", fmt.Sprint(whole(l), counts), fmt.Sprint("x", []int{n}))
	told(t, "Comm", whole(order.Comm(rising, rising, 3)), want)
	j, e := order.Join(rising, rising, 1, 1, 0, 3)
	told(t, "Join", fmt.Sprint(len(j), int(e), string(j[n-1])), fmt.Sprint(n, 0, fmt.Sprintf("%06d x x", n-1)))
}

// R1: so are long lines.
func TestLongLines(t *testing.T) {
	const n = 1 << 20
	letters, fields, blanks := strings.Repeat("a", n), strings.Repeat("a:", n), strings.Repeat(" \t", n)
	parts(t, fields+"b", ':', n+1, 1, 0, 0, 0, "b")
	parts(t, fields+"b", ':', 1, 2*n+1, n+1, 1, 0, "b")
	parts(t, blanks+"b", 0, 1, 1, 0, 0, api.KeyBlanks, "b")
	compares(t, letters+"a", letters+"b", by(api.KeyFold|api.KeyDict), -1)
	compares(t, strings.Repeat(".", n)+"b", letters, by(api.KeyDict), 1)
	compares(t, strings.Repeat("9", n), strings.Repeat("9", n)+".01", by(api.KeyNumeric), -1)
	told(t, "Uniq", uniqs(strings.Repeat("a ", n)+"x|"+strings.Repeat("b ", n)+"X", n, 1, true), strings.Repeat("a ", n)+"x [2]")
	told(t, "Join", joins(fields+"x", fields+"x", n+1, n+1, ':', 0), "x:"+fields+fields[:2*n-1])
}
