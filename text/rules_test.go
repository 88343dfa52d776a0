package text_test

import (
	"bytes"
	"fmt"
	"math"
	"slices"
	"strings"
	"sync"
	"testing"

	"tinsel/api"
	"tinsel/text"
)

// The chapter's examples.
func TestExamples(t *testing.T) {
	told(t, "Count", counted("a b\nc"), "1 3 5 3")
	is(t, "Head", text.Head([]byte("a\nb\nc"), -1), "a\nb\n")
	is(t, "CutFields", text.CutFields([]byte("a:b:c\nx\n"), between(2, 2), ':', false), "b\nx\n")
	is(t, "Paste", text.Paste(list("a\nb\n", "1\n"), ","), "a,1\nb,\n")
	folds(t, "abcd", 3, "abc\nd", "abc\nd")
	dumps(t, "AB", 8, "0000000 101 102\n0000002\n")
	n, line := text.Cmp([]byte("ab"), []byte("abc"))
	told(t, "Cmp", fmt.Sprint(n, line), "3 1")
	is(t, "Number", text.Number([]byte("x\n\ny\n"), 1, 1, 3, false), "  1\tx\n    \n  2\ty\n")
}

// given is what calls are given.
type given struct {
	b, other []byte
	lists    [][]byte
	ranges   []api.Range
	stops    []int
	n, m     int
	flag     bool
	s        string
}

// call is one of the layer's, with all that it answers as lists of bytes, the last one a text of the rest.
type call struct {
	name string
	do   func(g given) [][]byte
}

// one: a single list as an answer.
func one(f func(g given) []byte) func(given) [][]byte {
	return func(g given) [][]byte { return [][]byte{f(g)} }
}

// erring: a list and an error.
func erring(f func(g given) ([]byte, api.Errno)) func(given) [][]byte {
	return func(g given) [][]byte {
		b, e := f(g)
		return [][]byte{b, []byte(fmt.Sprint(int(e)))}
	}
}

// everyCall: all of them.
func everyCall() []call {
	return []call{
		{"Lines", func(g given) [][]byte {
			l, ended := text.Lines(g.b)
			return append(l, []byte(fmt.Sprint(len(l), ended)))
		}},
		{"Whole", one(func(g given) []byte { return text.Whole(g.lists, g.flag) })},
		{"Head", one(func(g given) []byte { return text.Head(g.b, g.n) })},
		{"HeadBytes", one(func(g given) []byte { return text.HeadBytes(g.b, g.n) })},
		{"Tail", one(func(g given) []byte { return text.Tail(g.b, g.n, g.flag) })},
		{"TailBytes", one(func(g given) []byte { return text.TailBytes(g.b, g.n, g.flag) })},
		{"Count", func(g given) [][]byte { return list(counted(string(g.b))) }},
		{"CutBytes", one(func(g given) []byte { return text.CutBytes(g.b, g.ranges) })},
		{"CutFields", one(func(g given) []byte { return text.CutFields(g.b, g.ranges, byte(g.n), g.flag) })},
		{"CutFields by blanks", one(func(g given) []byte { return text.CutFields(g.b, g.ranges, ' ', g.flag) })},
		{"Rev", one(func(g given) []byte { return text.Rev(g.b) })},
		{"Tac", one(func(g given) []byte { return text.Tac(g.b) })},
		{"Number", one(func(g given) []byte { return text.Number(g.b, g.n, g.m, g.m, g.flag) })},
		{"Paste", one(func(g given) []byte { return text.Paste(g.lists, g.s) })},
		{"Serial", one(func(g given) []byte { return text.Serial(g.lists, g.s) })},
		{"Fold", erring(func(g given) ([]byte, api.Errno) { return text.Fold(g.b, g.n, g.flag) })},
		{"Expand", erring(func(g given) ([]byte, api.Errno) { return text.Expand(g.b, g.stops) })},
		{"Unexpand", erring(func(g given) ([]byte, api.Errno) { return text.Unexpand(g.b, g.stops, g.flag) })},
		{"Cmp", func(g given) [][]byte {
			n, line := text.Cmp(g.b, g.other)
			return list(fmt.Sprint(n, line))
		}},
		{"Od", erring(func(g given) ([]byte, api.Errno) { return text.Od(g.b, g.n) })},
		{"Split by lines", func(g given) [][]byte { return splitInto(text.Split(g.b, g.n, 0, g.s)) }},
		{"Split by bytes", func(g given) [][]byte { return splitInto(text.Split(g.b, 0, g.n, g.s)) }},
		{"Split by both", func(g given) [][]byte { return splitInto(text.Split(g.b, g.m, g.n, g.s)) }},
	}
}

// splitInto: what Split answers, as lists of bytes.
func splitInto(names []string, l [][]byte, e api.Errno) [][]byte {
	return append(slices.Clone(l), []byte(fmt.Sprintf("%q %d", names, int(e))))
}

// oddNumbers: at their ends, and in between.
var oddNumbers = append([]int{0, 1, -1, 2, 3, -3, 7, 8, 9, 10, 15, 16, 17, 99, 100, 101, 255, 676}, farInts...)

// oddGiven: texts of many kinds, with all else drawn by turns; what would be beyond the bound is not among them.
func oddGiven() []given {
	texts := []string{
		"", "\n", "a", "a\n", "\n\n\n", "\x00", "\xff", "\x00\n\xff", "é", " ", "\t", " \t ", "\b", "\r", "\b\b\b", "a b c\nd e f\n", "  x  y  \n\tz\t", "a\rb\bc\td", "abcdefgh ijklmnop\n\nq",
		strings.Repeat("\n", 700), strings.Repeat("ab ", 100), strings.Repeat("\b", 100), strings.Repeat("\t\n", 50), strings.Repeat("\xff\x00", 50),
	}
	ranges := [][]api.Range{nil, {}, {{}}, between(1, 1), between(2, -1), between(-5, -1, 3, 2), between(math.MinInt, math.MaxInt), between(math.MaxInt, math.MinInt, 1, 2)}
	stops := [][]int{nil, {}, {0}, {1}, {-1}, {8}, {100}, {2, 5}, {5, 2}, {3, 3}, {1, 2, 3, 4}, {math.MinInt}, {math.MinInt, math.MaxInt}, {3, 1000, 2000}}
	lists := [][][]byte{nil, {}, {nil}, {{}}, {nil, {}, []byte("a\nb")}, list("a\n", "", "b\nc\n\n"), list("\x00", "\xff\n"), list(texts...)}
	delims := []string{"", ",", ",;", "\n", "\x00\xff", "é", strings.Repeat("x", 100)}
	var l []given
	for i, s := range texts {
		for j, n := range oddNumbers {
			k := i + j
			l = append(l, given{[]byte(s), []byte(texts[k%len(texts)]), lists[k%len(lists)], ranges[k%len(ranges)], stops[(i*7+j)%len(stops)], n, oddNumbers[(i*5+j*3)%len(oddNumbers)], k%3 == 0, delims[k%len(delims)]})
		}
	}
	return l
}

// R1, R4: no call panics, each ends, and says the same again.
func TestOddArguments(t *testing.T) {
	for _, g := range oddGiven() {
		for _, c := range everyCall() {
			same(t, c.name, c.do(g), c.do(g))
		}
	}
}

// emptied: nil for each empty list, or an empty one for each nil.
func emptied(g given, toNil bool) given {
	turn := func(b []byte) []byte {
		if len(b) > 0 {
			return b
		}
		if toNil {
			return nil
		}
		return []byte{}
	}
	g.b, g.other = turn(g.b), turn(g.other)
	g.lists = slices.Clone(g.lists)
	for i, b := range g.lists {
		g.lists[i] = turn(b)
	}
	if len(g.lists) == 0 {
		g.lists = map[bool][][]byte{true: nil, false: {}}[toNil]
	}
	if len(g.ranges) == 0 {
		g.ranges = map[bool][]api.Range{true: nil, false: {}}[toNil]
	}
	if len(g.stops) == 0 {
		g.stops = map[bool][]int{true: nil, false: {}}[toNil]
	}
	return g
}

// R3: nil and empty lists are the same.
func TestNoLists(t *testing.T) {
	for _, g := range oddGiven() {
		for _, c := range everyCall() {
			same(t, c.name, c.do(emptied(g, true)), c.do(emptied(g, false)))
		}
	}
}

// R2: beside an error stands nothing.
func TestNothingBesideAnError(t *testing.T) {
	b := []byte("a b\tc\n d")
	told(t, "Fold", answer(text.Fold(b, 0, true)), refused(api.EINVAL))
	told(t, "Expand", answer(text.Expand(b, []int{1, 1})), refused(api.EINVAL))
	told(t, "Unexpand", answer(text.Unexpand(b, []int{0}, true)), refused(api.EINVAL))
	told(t, "Od", answer(text.Od(b, 2)), refused(api.EINVAL))
	told(t, "Split", pieces(string(b), 1, 1, "x"), "[] [] 22")
	told(t, "Split", pieces(strings.Repeat("\n", 677), 1, 0, "x"), "[] [] 34")
	for _, n := range []int{-1, math.MinInt} {
		told(t, "EINVAL ahead of ERANGE", pieces(strings.Repeat("\n", 677), 1, n, "x"), "[] [] 22")
		told(t, "EINVAL ahead of ERANGE", pieces(strings.Repeat("\n", 677), n, 1, "x"), "[] [] 22")
	}
}

// roomy: a copy of a list, with other things in the room behind its end, and all of that room.
func roomy[E any](l []E, other ...E) ([]E, []E) {
	all := append(slices.Clone(l), other...)
	return all[:len(l)], all
}

// R3: what is handed in is not changed, nor what lies behind its end, which is not looked at.
func TestHandedInStays(t *testing.T) {
	room := []byte("room\n behind\tthe end ")
	for _, g := range oddGiven() {
		for _, c := range everyCall() {
			h := g
			var b, other []byte
			var ranges []api.Range
			var stops []int
			var lists [][]byte
			h.b, b = roomy(g.b, room...)
			h.other, other = roomy(g.other, room...)
			h.ranges, ranges = roomy(g.ranges, between(1, -1)...)
			h.stops, stops = roomy(g.stops, 3000, 4000)
			h.lists, lists = roomy(g.lists, []byte("beyond"))
			inner := make([][]byte, len(h.lists))
			for i, x := range h.lists {
				h.lists[i], inner[i] = roomy(x, room...)
			}
			had := fmt.Sprintf("%q %q %v %v %q %q", b, other, ranges, stops, lists, inner)
			same(t, c.name+" with room", c.do(h), c.do(g))
			told(t, c.name+": what was handed in", fmt.Sprintf("%q %q %v %v %q %q", b, other, ranges, stops, lists, inner), had)
		}
	}
}

// spoil: all that belongs to a list, its spare room too.
func spoil(b []byte) {
	b = b[:cap(b)]
	for i := range b {
		b[i] = '#'
	}
}

// spoilAll: what was handed in.
func spoilAll(g given) {
	spoil(g.b)
	spoil(g.other)
	for i := range g.lists {
		spoil(g.lists[i])
		g.lists[i] = nil
	}
	for i := range g.ranges {
		g.ranges[i] = api.Range{Lo: 1, Hi: -1}
	}
	for i := range g.stops {
		g.stops[i] = 3
	}
}

// own: what is given, in memory of its own.
func own(g given) given {
	g.b, g.other, g.ranges, g.stops, g.lists = bytes.Clone(g.b), bytes.Clone(g.other), slices.Clone(g.ranges), slices.Clone(g.stops), slices.Clone(g.lists)
	for i, b := range g.lists {
		g.lists[i] = bytes.Clone(b)
	}
	return g
}

// R3: an answer is new memory: neither what was handed in nor another answer changes by it, nor one of its lists by another.
func TestAnswerIsNew(t *testing.T) {
	for _, g := range oddGiven() {
		for _, c := range everyCall() {
			h := own(g)
			first := c.do(h)
			want := fmt.Sprintf("%q", first)
			for _, b := range c.do(h) {
				spoil(b)
			}
			told(t, c.name+": what was handed in", fmt.Sprintf("%q %q %q", h.b, h.other, h.lists), fmt.Sprintf("%q %q %q", g.b, g.other, g.lists))
			told(t, c.name+": the first answer", fmt.Sprintf("%q", first), want)
			spoilAll(h)
			told(t, c.name+": behind other arguments", fmt.Sprintf("%q", first), want)
			texts := make([]string, len(first))
			for i, b := range first {
				texts[i] = string(b)
			}
			for i, b := range first {
				spoil(b)
				for j := i + 1; j < len(first); j++ {
					told(t, c.name+": another list of the answer", string(first[j]), texts[j])
				}
			}
		}
		if t.Failed() {
			return
		}
	}
}

// R3: the lists of lists are new, too, with their spare room.
func TestListOfListsIsNew(t *testing.T) {
	b := []byte("a\nb\nc\nd\ne\n")
	l, _ := text.Lines(b)
	again, _ := text.Lines(b)
	names, parts, _ := text.Split(b, 1, 0, "x")
	moreNames, moreParts, _ := text.Split(b, 1, 0, "x")
	for _, x := range [][][]byte{again[:cap(again)], moreParts[:cap(moreParts)]} {
		for i := range x {
			x[i] = []byte("#")
		}
	}
	for i := range moreNames[:cap(moreNames)] {
		moreNames[:cap(moreNames)][i] = "#"
	}
	same(t, "Lines", l, list("a", "b", "c", "d", "e"))
	same(t, "Split", parts, list("a\n", "b\n", "c\n", "d\n", "e\n"))
	same(t, "names", names, []string{"xaa", "xab", "xac", "xad", "xae"})
	for _, x := range append(slices.Clone(l[:cap(l)]), parts[:cap(parts)]...) {
		spoil(x)
	}
	is(t, "the text", b, "a\nb\nc\nd\ne\n")
}

// R4: the same answers, whoever else asks at the same time.
func TestManyAtOnce(t *testing.T) {
	all := oddGiven()
	picture := func(g given) string {
		var b strings.Builder
		for _, c := range everyCall() {
			fmt.Fprintf(&b, "%s %q ", c.name, c.do(g))
		}
		return b.String()
	}
	want := make([]string, len(all))
	for i, g := range all {
		want[i] = picture(g)
	}
	got := make([]string, 2*len(all))
	var wait sync.WaitGroup
	for i := range got {
		wait.Go(func() { got[i] = picture(all[i%len(all)]) })
	}
	wait.Wait()
	for i := range got {
		told(t, "at once", got[i], want[i%len(all)])
	}
}

// R1: great texts are gone through in a short time.
func TestGreatTexts(t *testing.T) {
	const n = 1 << 20
	feeds, letters, mixed := strings.Repeat("\n", n), strings.Repeat("a", n), strings.Repeat("a b\t", n/4)
	l, ended := text.Lines([]byte(feeds))
	if len(l) != n || !ended {
		t.Error("Lines", len(l), ended)
	}
	is(t, "Whole", text.Whole(l, true), feeds)
	is(t, "Tac", text.Tac([]byte(feeds+letters)), letters+feeds)
	is(t, "Rev", text.Rev([]byte(letters+"b")), "b"+letters)
	is(t, "Tail", text.Tail([]byte(feeds+letters), 1, false), letters)
	is(t, "CutBytes", text.CutBytes([]byte(letters+"b"), between(n+1, n+1)), "b\n")
	is(t, "CutFields", text.CutFields([]byte(mixed), between(n/4+1, -1), ' ', true), "b\t\n")
	is(t, "Serial", text.Serial(list(feeds), ""), "\n")
	is(t, "Paste", text.Paste(list(feeds, "x"), ""), "x"+feeds)
	told(t, "Count", counted(mixed), fmt.Sprint(0, n/2, n, n))
	folds(t, letters, n, letters, letters)
	folds(t, letters+" b", n, letters+"\n b", letters+"\n b")
	folds(t, " "+letters+strings.Repeat("\b", n)+letters, n, " "+letters[1:]+"\na"+strings.Repeat("\b", n)+letters, " \n"+letters+strings.Repeat("\b", n)+letters)
	folds(t, strings.Repeat("\r ", n/2)+letters, n, strings.Repeat("\r ", n/2)+letters[1:]+"\na", strings.Repeat("\r ", n/2)+"\n"+letters)
	expands(t, letters, []int{2}, letters)
	unexpands(t, blanks(n)+"a", []int{2}, strings.Repeat("\t", n/2)+"a", strings.Repeat("\t", n/2)+"a")
	stops := make([]int, n)
	for i := range stops {
		stops[i] = i + 1
	}
	expands(t, strings.Repeat("\t", n)+"a\t", stops, blanks(n)+"a ")
	unexpands(t, blanks(n+1), stops, strings.Repeat("\t", n)+" ", strings.Repeat("\t", n)+" ")
}

// R1: many texts and many ranges, likewise; what is at its end is not asked for again.
func TestManyLists(t *testing.T) {
	const n = 1 << 16
	l := make([][]byte, n)
	l[n-1] = []byte(strings.Repeat("a\n", n))
	is(t, "Paste", text.Paste(l, ""), strings.Repeat("a\n", n))
	is(t, "Serial", text.Serial(l, ","), strings.Repeat("\n", n-1)+strings.Repeat("a,", n-1)+"a\n")
	is(t, "Whole", text.Whole(l[:n-1], true), strings.Repeat("\n", n-1))
	ranges := make([]api.Range, n)
	for i := range ranges {
		ranges[i] = api.Range{Lo: 2 * i, Hi: 2 * i}
	}
	is(t, "CutBytes", text.CutBytes([]byte(strings.Repeat("abcd\n", n)), ranges), strings.Repeat("bd\n", n))
	is(t, "CutFields", text.CutFields([]byte(strings.Repeat("a:b:c\n", n)), ranges, ':', false), strings.Repeat("b\n", n))
}
