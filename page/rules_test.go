package page_test

import (
	"bytes"
	"fmt"
	"math"
	"slices"
	"strings"
	"sync"
	"testing"

	"tinsel/api"
	"tinsel/page"
)

// The chapter's examples.
func TestExamples(t *testing.T) {
	moves(t, 0, "a\tb", 9)
	moves(t, 3+2i, "\n", 3i)
	told(t, "Columns", grid(page.Columns, "a|bb|c", 4, 1), "a 0,0|bb 0,1|c 3,0")
	told(t, "Turn", laid(page.Turn(items("x 1,0"), 1)), "x 0,1")
	told(t, "Turn", laid(page.Turn(items("x 1,0"), 2)), "x -1,0")
	told(t, "Distance", fmt.Sprint(page.Distance(0, 3+4i)), "7")
	told(t, "Draw", drawn("hi 2,1"), "\n  hi\n")
	reads(t, "a  b\n c", "a 0,0|b 3,0|c 1,1")
}

// given is what calls are given.
type given struct {
	at, to complex128
	s      string
	texts  []string
	items  []api.Item
	b      []byte
	n, m   int
	k      int
}

// answer is what a call answers, in lists and as text.
type answer struct {
	items []api.Item
	bytes []byte
	rest  string
}

// text: all of it.
func (a answer) text() string { return fmt.Sprintf("%q %q %s", laid(a.items), a.bytes, a.rest) }

// call is one of the layer's.
type call struct {
	name string
	do   func(g given) answer
}

// withItems: items, and an error.
func withItems(l []api.Item, e api.Errno) answer { return answer{items: l, rest: fmt.Sprint(int(e))} }

// withBytes: bytes, and an error.
func withBytes(b []byte, e api.Errno) answer { return answer{bytes: b, rest: fmt.Sprint(int(e))} }

// everyCall: all of them; those that take sizes with any, and with such that may be.
func everyCall() []call {
	return []call{
		{"Move", func(g given) answer { return answer{rest: spot(page.Move(g.at, g.s))} }},
		{"Columns", func(g given) answer { return withItems(page.Columns(g.texts, g.n, g.m)) }},
		{"Columns that fit", func(g given) answer { return withItems(page.Columns(g.texts, 1+g.k, g.k%9)) }},
		{"Across", func(g given) answer { return withItems(page.Across(g.texts, g.n, g.m)) }},
		{"Across that fits", func(g given) answer { return withItems(page.Across(g.texts, 1+g.k, g.k%9)) }},
		{"Bounds", func(g given) answer { return answer{rest: bounds(g.items)} }},
		{"Shift", func(g given) answer { return answer{items: page.Shift(g.items, g.to)} }},
		{"Shift by nothing", func(g given) answer { return answer{items: page.Shift(g.items, 0)} }},
		{"Turn", func(g given) answer { return answer{items: page.Turn(g.items, g.n)} }},
		{"Turn by nothing", func(g given) answer { return answer{items: page.Turn(g.items, 0)} }},
		{"Distance", func(g given) answer { return answer{rest: fmt.Sprint(page.Distance(g.at, g.to))} }},
		{"Draw", func(g given) answer { return withBytes(page.Draw(g.items)) }},
		{"Draw from 0", func(g given) answer {
			least, _ := page.Bounds(g.items)
			return withBytes(page.Draw(page.Shift(g.items, -least)))
		}},
		{"Read", func(g given) answer { return answer{items: page.Read(g.b)} }},
		{"Pages", func(g given) answer { return withBytes(page.Pages(g.b, g.s, g.n, g.m, g.k)) }},
		{"Pages that may be", func(g given) answer { return withBytes(page.Pages(g.b, g.s, 3+g.k%20, 1+g.k%7, 7+g.k)) }},
	}
}

// oddGiven: texts and items of many kinds, with all else drawn by turns.
func oddGiven() []given {
	texts := [][]string{nil, {}, {""}, {"", "", ""}, {"a"}, {"a", "bb", "", "ccc"}, {"\n", "\t", "\x00\xff"}, strings.Split(strings.Repeat("a bc def ", 50), " "), slices.Repeat([]string{"x"}, 1001)}
	bytes := []string{"", "\n", "a", "a\n", " ", "\t", " \t \n \t", "a b\nc\td\n\n", "\b\r\b\ra b", "\x00\xff \x80", strings.Repeat("\n", 100), strings.Repeat("ab cd\n", 40), strings.Repeat("long ", 300)}
	places := append(append(slices.Clone(farPlaces), noPlaces()...), 0, 1, -1, 1i, -1i, 3+4i, 999+999i, 1000, 1000i, -8-8i)
	numbers := append([]int{0, 1, -1, 2, 3, 4, 7, 8, 80, 99, 100, 101, 999, 1000, 1001, -1000}, farInts...)
	var l []given
	for i, at := range places {
		for j, n := range numbers {
			k := 7*i + 3*j
			g := given{at: at, to: places[(k+j)%len(places)], s: bytes[k%len(bytes)], texts: texts[k%len(texts)], b: []byte(bytes[(k+i)%len(bytes)]), n: n, m: numbers[k%len(numbers)], k: k % 990}
			for x := range k % 5 {
				g.items = append(g.items, item(bytes[(k+x)%len(bytes)], places[(i+x*k)%len(places)]))
			}
			l = append(l, g)
		}
	}
	return l
}

// R1, R4: no call panics, each ends, and says the same again.
func TestOddArguments(t *testing.T) {
	for _, g := range oddGiven() {
		for _, c := range everyCall() {
			told(t, c.name, c.do(g).text(), c.do(g).text())
		}
	}
}

// R3: nil and empty lists are the same.
func TestNoLists(t *testing.T) {
	for _, c := range everyCall() {
		for _, k := range []int{0, 1, 80} {
			a := given{k: k, n: 80, m: 1}
			b := a
			b.texts, b.items, b.b = []string{}, []api.Item{}, []byte{}
			told(t, c.name, c.do(a).text(), c.do(b).text())
		}
	}
}

// R2, R7: beside an error stands nothing.
func TestNothingBesideAnError(t *testing.T) {
	for _, x := range [][2]int{{0, 1}, {1001, 1}, {1, -1}, {1, 1001}} {
		for name, call := range layouts() {
			if l, e := call([]string{"a", "b"}, x[0], x[1]); len(l) != 0 || e != api.EINVAL {
				t.Errorf("%s by %v: %v, %d", name, x, l, int(e))
			}
		}
	}
	if b, e := page.Draw(append(items("a 0,0|b 1,1"), item("c", -1))); len(b) != 0 || e != api.EINVAL {
		t.Errorf("Draw: %q, %d", b, int(e))
	}
	if b, e := page.Pages([]byte("a\nb\n"), "T", 10, 3, 2); len(b) != 0 || e != api.EINVAL {
		t.Errorf("Pages: %q, %d", b, int(e))
	}
}

// bits: items as they are, to the last bit.
func bits(l []api.Item) string {
	var b strings.Builder
	for _, x := range l {
		fmt.Fprintf(&b, "%q %x %x|", x.Text, math.Float64bits(real(x.At)), math.Float64bits(imag(x.At)))
	}
	return b.String()
}

// roomy: a copy of a list, with other things in the room behind its end, and all of that room.
func roomy[E any](l []E, other ...E) ([]E, []E) {
	all := append(slices.Clone(l), other...)
	return all[:len(l)], all
}

// R3: what is handed in is not changed, nor what lies behind its end, which is not looked at.
func TestHandedInStays(t *testing.T) {
	for _, g := range oddGiven() {
		for _, c := range everyCall() {
			h := g
			var texts []string
			var all []api.Item
			var b []byte
			h.texts, texts = roomy(g.texts, "beyond", strings.Repeat("x", 100))
			h.items, all = roomy(g.items, item("beyond", 5000), item("x", -9-9i))
			h.b, b = roomy(g.b, []byte("beyond\nthe end")...)
			picture := func() string { return fmt.Sprintf("%q %s %q", texts, bits(all), b) }
			had := picture()
			told(t, c.name+" with room", c.do(h).text(), c.do(g).text())
			told(t, c.name+": what was handed in", picture(), had)
		}
		if t.Failed() {
			return
		}
	}
}

// spoil: all that belongs to a list, its spare room too.
func spoil[E any](l []E, with E) {
	l = l[:cap(l)]
	for i := range l {
		l[i] = with
	}
}

// R3: an answer is new memory: neither what was handed in nor another answer changes by it, nor it by them.
func TestAnswerIsNew(t *testing.T) {
	for _, g := range oddGiven() {
		for _, c := range everyCall() {
			h := g
			h.texts, h.items, h.b = slices.Clone(g.texts), slices.Clone(g.items), bytes.Clone(g.b)
			picture := func(g given) string { return fmt.Sprintf("%q %s %q", g.texts, bits(g.items), g.b) }
			first := c.do(h)
			want := first.text()
			other := c.do(h)
			spoil(other.items, item("#", 77))
			spoil(other.bytes, '#')
			told(t, c.name+": what was handed in", picture(h), picture(g))
			told(t, c.name+": the first answer", first.text(), want)
			spoil(h.texts, "#")
			spoil(h.items, item("#", 77))
			spoil(h.b, '#')
			told(t, c.name+": behind other arguments", first.text(), want)
		}
		if t.Failed() {
			return
		}
	}
}

// R4: the same answers, whoever else asks at the same time.
func TestManyAtOnce(t *testing.T) {
	all := oddGiven()
	picture := func(g given) string {
		var b strings.Builder
		for _, c := range everyCall() {
			b.WriteString(c.name + " " + c.do(g).text())
		}
		return b.String()
	}
	want := make([]string, len(all))
	for i, g := range all {
		want[i] = picture(g)
	}
	got := make([]string, 2*len(all))
	var wait sync.WaitGroup
	for i := range got {
		wait.Go(func() { got[i] = picture(all[i%len(all)]) })
	}
	wait.Wait()
	for i := range got {
		told(t, "at once", got[i], want[i%len(all)])
	}
}

// R1: much is gone through in a short time.
func TestMuch(t *testing.T) {
	const n = 1 << 20
	letters := strings.Repeat("a", n)
	moves(t, 0, strings.Repeat("a\t\b\n", n), n*1i)
	moves(t, -n, letters, 0)
	var many, wide []string
	for i := range 1000 {
		many = append(many, letters[:i%40])
		wide = append(wide, letters[:1000+i])
	}
	for name, call := range layouts() {
		for width := 1; width <= 1000; width += 333 {
			l, e := call(many, width, 1)
			told(t, name, fmt.Sprint(len(l), int(e)), "1000 0")
		}
		l, e := call(wide, 999, 1000)
		told(t, name, spot(l[999].At)+" "+e.Error(), "0,999 Success")
	}
	words := page.Read([]byte(strings.Repeat("a b\n", n)))
	told(t, "Read", laid(words[2*n-2:]), fmt.Sprintf("a 0,%d|b 2,%d", n-1, n-1))
	told(t, "Bounds", bounds(words), fmt.Sprintf("0,0 2,%d", n-1))
	told(t, "Turn", laid(page.Turn(words, 1)[2*n-1:]), fmt.Sprintf("b -%d,2", n-1))
	told(t, "Shift", laid(page.Shift(words, 1i)[2*n-1:]), fmt.Sprintf("b 2,%d", n))
	reads(t, letters+" b", fmt.Sprintf("%s 0,0|b %d,0", letters, n+1))
	var over []api.Item
	for i := range n {
		over = append(over, item("ab", complex(float64(i*7%999), float64(i%1000))))
	}
	b, e := page.Draw(over)
	told(t, "Draw", fmt.Sprint(bytes.Count(b, []byte("\n")), int(e)), "1000 0")
	told(t, "Draw of a long text", fmt.Sprint(len(bytesOr(page.Draw([]api.Item{item(letters, 5+3i)})))), fmt.Sprint(3+5+n+1))
	told(t, "Pages of lines", fmt.Sprint(strings.Count(paged(strings.Repeat("a\n", n), "T", 3, 1, 8), "Page")), fmt.Sprint(n))
	told(t, "Pages of a line", paged(letters, "T", 3, 1, 8), "T Page 1\n\naaaaaaa\n")
}
