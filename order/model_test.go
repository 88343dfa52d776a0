package order_test

import (
	"fmt"
	"math"
	"math/big"
	"math/bits"
	"math/rand"
	"regexp"
	"slices"
	"strings"
	"testing"

	"tinsel/api"
	"tinsel/order"
)

// The model tells each call another way: by strings, patterns, recursion, numbers and fractions of any size.

var (
	blankField = regexp.MustCompile(`^[ \t]*[^ \t]*|[ \t]+[^ \t]*`)
	numberForm = regexp.MustCompile(`^[ \t]*(-?)0*([0-9]*)(?:\.([0-9]*))?`)
)

// span: where a field of a line begins and ends.
type span struct{ begin, end int }

func modelFields(line string, sep byte) []span {
	var l []span
	if sep == 0 {
		for _, x := range blankField.FindAllStringIndex(line, -1) {
			l = append(l, span{x[0], x[1]})
		}
		return l
	}
	at := 0
	for _, x := range strings.Split(line, string([]byte{sep})) {
		l = append(l, span{at, at + len(x)})
		at += len(x) + 1
	}
	return l
}

// modelPlace: the place so many bytes behind a field's beginning, or behind its blanks.
func modelPlace(line string, x span, n *big.Int, skip bool) int {
	text := line[x.begin:x.end]
	if skip {
		x.begin += len(text) - len(strings.TrimLeft(text, " \t"))
	}
	n = new(big.Int).Add(n, big.NewInt(int64(x.begin)))
	if n.Cmp(big.NewInt(int64(len(line)))) > 0 {
		return len(line)
	}
	return int(n.Int64())
}

func modelPart(line string, k api.Key, sep byte) string {
	l := modelFields(line, sep)
	at := func(n int) span {
		if n > len(l) {
			return span{len(line), len(line)}
		}
		return l[n-1]
	}
	skip := k.Flags&api.KeyBlanks != 0
	char := big.NewInt(int64(max(k.Char, 1)))
	from, to := modelPlace(line, at(max(k.Field, 1)), char.Sub(char, big.NewInt(1)), skip), len(line)
	if k.EndField > 0 && k.EndChar > 0 {
		to = modelPlace(line, at(k.EndField), big.NewInt(int64(k.EndChar)), skip)
	} else if k.EndField > 0 {
		to = at(k.EndField).end
	}
	if to < from {
		return ""
	}
	return line[from:to]
}

// modelDigits: the sign and the digits of a number.
func modelDigits(s string) (string, string, string) {
	m := numberForm.FindStringSubmatch(s)
	decimals := m[3]
	for strings.HasSuffix(decimals, "0") {
		decimals = strings.TrimSuffix(decimals, "0")
	}
	if m[2]+decimals == "" {
		m[1] = ""
	}
	return m[1], m[2], decimals
}

// modelNumber: a number as a fraction.
func modelNumber(s string) *big.Rat {
	sign, digits, decimals := modelDigits(s)
	r, _ := new(big.Rat).SetString(sign + "0" + digits + "." + decimals + "0")
	return r
}

// modelText: a part as its bytes count.
func modelText(s string, flags int) string {
	var out []byte
	for _, c := range []byte(s) {
		letter := c >= 'A' && c <= 'Z' || c >= 'a' && c <= 'z'
		if flags&api.KeyDict != 0 && !letter && !strings.Contains(" \t0123456789", string(rune(c))) {
			continue
		}
		if flags&api.KeyFold != 0 && letter {
			c &^= 32
		}
		out = append(out, c)
	}
	return string(out)
}

func modelCompare(a, b string, o api.Order) int {
	keys := slices.Clone(o.Keys)
	if len(keys) == 0 {
		keys = []api.Key{{Field: 1, Char: 1, Flags: o.Flags}}
	}
	for _, k := range keys {
		if k.Flags == 0 {
			k.Flags = o.Flags & keyFlags
		}
		x, y, n := modelPart(a, k, o.Sep), modelPart(b, k, o.Sep), 0
		if k.Flags&api.KeyNumeric != 0 {
			n = modelNumber(x).Cmp(modelNumber(y))
		} else {
			n = strings.Compare(modelText(x, k.Flags), modelText(y, k.Flags))
		}
		if k.Flags&api.KeyReverse != 0 {
			n = -n
		}
		if n != 0 {
			return n
		}
	}
	if o.Flags&(api.SortUnique|api.SortStable) != 0 {
		return 0
	}
	if o.Flags&api.KeyReverse != 0 {
		return strings.Compare(b, a)
	}
	return strings.Compare(a, b)
}

// modelSort: each line is put in behind all that may stand ahead of it; with SortUnique only if it has no equal.
func modelSort(l []string, o api.Order) []string {
	var out []string
	for _, x := range l {
		equal := func(y string) bool { return modelCompare(x, y, o) == 0 }
		if o.Flags&api.SortUnique != 0 && slices.ContainsFunc(out, equal) {
			continue
		}
		at := 0
		for i, y := range out {
			if modelCompare(y, x, o) <= 0 {
				at = i + 1
			}
		}
		out = slices.Insert(out, at, x)
	}
	return out
}

func modelSorted(l []string, o api.Order) int {
	for i := range l {
		if i > 0 {
			n := modelCompare(l[i-1], l[i], o)
			if n > 0 || n == 0 && o.Flags&api.SortUnique != 0 {
				return i
			}
		}
	}
	return -1
}

// modelMerge: all lists' first ones are looked at for each line.
func modelMerge(lists [][]string, o api.Order, last []string) []string {
	least := -1
	for i, l := range lists {
		if len(l) > 0 && (least < 0 || modelCompare(l[0], lists[least][0], o) < 0) {
			least = i
		}
	}
	if least < 0 {
		return nil
	}
	x, rest := lists[least][:1], slices.Clone(lists)
	rest[least] = rest[least][1:]
	if o.Flags&api.SortUnique != 0 && len(last) > 0 && modelCompare(last[0], x[0], o) == 0 {
		return modelMerge(rest, o, last)
	}
	return append(slices.Clone(x), modelMerge(rest, o, x)...)
}

// modelLeft: a line without so many fields and then bytes.
func modelLeft(s string, fields, chars int, fold bool) string {
	for i := 0; i < fields && s != ""; i++ {
		s = strings.TrimPrefix(s, blankField.FindString(s))
	}
	for i := 0; i < chars && s != ""; i++ {
		s = s[1:]
	}
	if fold {
		return modelText(s, api.KeyFold)
	}
	return s
}

func modelUniq(l []string, fields, chars int, fold bool) string {
	var out []string
	var counts []int
	last := ""
	for i, x := range l {
		left := modelLeft(x, fields, chars, fold)
		if i == 0 || left != last {
			out, counts = append(out, x), append(counts, 0)
		}
		counts[len(counts)-1]++
		last = left
	}
	return fmt.Sprintf("%q %v", out, counts)
}

func modelComm(a, b []string, hide int) []string {
	tell := func(column int, line string, rest []string) []string {
		if hide>>(column-1)&1 != 0 {
			return rest
		}
		ahead := 1<<(column-1) - 1
		return append([]string{strings.Repeat("\t", bits.OnesCount(uint(ahead&^hide))) + line}, rest...)
	}
	switch {
	case len(a) == 0 && len(b) == 0:
		return nil
	case len(b) == 0 || len(a) > 0 && a[0] < b[0]:
		return tell(1, a[0], modelComm(a[1:], b, hide))
	case len(a) == 0 || a[0] > b[0]:
		return tell(2, b[0], modelComm(a, b[1:], hide))
	}
	return tell(3, a[0], modelComm(a[1:], b[1:], hide))
}

// modelRow: a line's field, and its others.
func modelRow(line string, n int, sep byte) (string, []string) {
	var l, others []string
	if sep == 0 {
		word := ""
		for _, c := range []byte(line + " ") {
			if c != ' ' && c != '\t' {
				word += string([]byte{c})
			} else if word != "" {
				l, word = append(l, word), ""
			}
		}
	} else {
		l = strings.Split(line, string([]byte{sep}))
	}
	field := ""
	for i, x := range l {
		if i+1 == n {
			field = x
		} else {
			others = append(others, x)
		}
	}
	return field, others
}

func modelJoin(a, b []string, fa, fb int, sep byte, alone int) []string {
	put := string([]byte{sep})
	if sep == 0 {
		put = " "
	}
	var fieldA, fieldB string
	var othersA, othersB []string
	if len(a) > 0 {
		fieldA, othersA = modelRow(a[0], fa, sep)
	}
	if len(b) > 0 {
		fieldB, othersB = modelRow(b[0], fb, sep)
	}
	line := func(parts ...[]string) string { return strings.Join(slices.Concat(parts...), put) }
	switch {
	case len(a) == 0 && len(b) == 0:
		return nil
	case len(b) == 0 || len(a) > 0 && fieldA < fieldB:
		rest := modelJoin(a[1:], b, fa, fb, sep, alone)
		if alone&1 == 0 {
			return rest
		}
		return append([]string{line([]string{fieldA}, othersA)}, rest...)
	case len(a) == 0 || fieldB < fieldA:
		rest := modelJoin(a, b[1:], fa, fb, sep, alone)
		if alone&2 == 0 {
			return rest
		}
		return append([]string{line([]string{fieldB}, othersB)}, rest...)
	}
	var out []string
	restA, restB := a, b
	for i, x := range a {
		f, l := modelRow(x, fa, sep)
		if f != fieldA {
			break
		}
		restA = a[i+1:]
		for j, y := range b {
			g, m := modelRow(y, fb, sep)
			if g != fieldA {
				break
			}
			restB = b[j+1:]
			out = append(out, line([]string{fieldA}, l, m))
		}
	}
	return append(out, modelJoin(restA, restB, fa, fb, sep, alone)...)
}

// texts: lines as strings.
func texts(l [][]byte) []string {
	var out []string
	for _, x := range l {
		out = append(out, string(x))
	}
	return out
}

// agree: is what a call told what the model tells?
func agree(t *testing.T, got, want any, what string, of ...any) {
	t.Helper()
	if a, b := fmt.Sprintf("%q", got), fmt.Sprintf("%q", want); a != b {
		t.Fatalf("%s: %s, want %s", fmt.Sprintf(what, of...), brief(a), brief(b))
	}
}

// The numbers that keys are made of.
var keyNumbers = []int{-1, 0, 1, 2, 3, 4, math.MinInt, math.MaxInt}

// P16.1: Part of each short line by every key of small numbers and such at their ends.
func TestModelPart(t *testing.T) {
	lines := append(everyText("a :", 5), "a b:c  d", "\t a\tb ", "::a: b")
	for _, field := range keyNumbers {
		for _, char := range keyNumbers {
			for _, endField := range keyNumbers {
				for _, endChar := range keyNumbers {
					k := api.Key{Field: field, Char: char, EndField: endField, EndChar: endChar}
					for i, line := range lines {
						k.Flags = api.KeyBlanks * (i % 2)
						sep := []byte{0, ':', ' '}[(i+field&7)%3]
						if got, want := string(order.Part([]byte(line), k, sep)), modelPart(line, k, sep); got != want {
							t.Fatalf("Part(%q, %v, %q): %q, want %q", line, k, sep, got, want)
						}
					}
				}
			}
		}
	}
}

// P16.1: Number of each short text of its signs.
func TestModelNumber(t *testing.T) {
	for _, s := range append(everyText("0 -.5", 7), everyText("01.-x\t", 6)...) {
		sign, digits, decimals := modelDigits(s)
		if got, want := numbered(s), sign+digits+"."+decimals; got != want {
			t.Fatalf("Number(%q): %q, want %q", s, got, want)
		}
	}
}

// P16.2: Compare of each two short lines by orders of many kinds.
func TestModelCompare(t *testing.T) {
	lines := append(everyText("aB1 ", 3), "-1", "-.5", "a.b", "a-", ".", "  a", "a:b", ":a", "1:B", "10", "1.5", "b", "A", "\x00", "\xff")
	for _, o := range someOrders() {
		for i, a := range lines {
			for j, b := range lines {
				if (i+j+o.Flags)%5 == 0 || i < 12 && j < 12 {
					if got, want := order.Compare([]byte(a), []byte(b), o), modelCompare(a, b, o); got != want {
						t.Fatalf("Compare(%q, %q, %v): %d, want %d", a, b, o, got, want)
					}
				}
			}
		}
	}
}

// draw is a source of arguments.
type draw struct{ *rand.Rand }

// one: one of some.
func one[E any](d draw, of ...E) E { return of[d.Intn(len(of))] }

func (d draw) line() string {
	s := ""
	for range d.Intn(5) {
		s += one(d, "a", "b", "A", "B", "1", "2", "10", "-1", ".5", "0", " ", "  ", "\t", ":", "::", "_", ".", "-", "\x00", "\xff", "é", "a b", "b:1")
	}
	return s
}

func (d draw) lines(most int) [][]byte {
	var some []string
	for range 1 + d.Intn(6) {
		some = append(some, d.line())
	}
	var l [][]byte
	for range d.Intn(most + 1) {
		l = append(l, []byte(one(d, some...)))
	}
	if d.Intn(2) == 0 {
		slices.SortFunc(l, func(a, b []byte) int { return slices.Compare(a, b) })
	}
	return l
}

func (d draw) order() api.Order {
	o := api.Order{Sep: one[byte](d, 0, 0, ':', ' ', 'a', '1'), Flags: d.Intn(256) & d.Intn(256)}
	for range d.Intn(4) {
		k := api.Key{Field: d.Intn(4), Char: d.Intn(4), EndField: d.Intn(4), EndChar: d.Intn(4)}
		if d.Intn(2) == 0 {
			k.Flags = d.Intn(256) & d.Intn(256)
		}
		if d.Intn(20) == 0 {
			k.Field, k.EndChar = one(d, farInts...), one(d, farInts...)
		}
		o.Keys = append(o.Keys, k)
	}
	return o
}

// P16.2: Sort, Sorted, Merge of lines and orders that are drawn.
func TestModelSort(t *testing.T) {
	d := draw{rand.New(rand.NewSource(16))}
	for range 20000 {
		o, l := d.order(), d.lines(12)
		agree(t, order.Sort(l, o), modelSort(texts(l), o), "Sort(%q, %v)", l, o)
		if got, want := order.Sorted(l, o), modelSorted(texts(l), o); got != want {
			t.Fatalf("Sorted(%q, %v): %d, want %d", l, o, got, want)
		}
		var lists [][][]byte
		var strings [][]string
		for range d.Intn(6) {
			x := d.lines(5)
			if d.Intn(3) > 0 {
				x = order.Sort(x, o)
			}
			lists, strings = append(lists, x), append(strings, texts(x))
		}
		agree(t, order.Merge(o, lists...), modelMerge(strings, o, nil), "Merge(%v, %q)", o, lists)
		for _, x := range l {
			for _, y := range l {
				if got, want := order.Compare(x, y, o), modelCompare(string(x), string(y), o); got != want {
					t.Fatalf("Compare(%q, %q, %v): %d, want %d", x, y, o, got, want)
				}
			}
		}
	}
}

// P16.2: Sort of longer lists.
func TestModelSortOfMany(t *testing.T) {
	d := draw{rand.New(rand.NewSource(17))}
	for range 100 {
		o := d.order()
		var l [][]byte
		for range 10 {
			l = append(l, d.lines(20)...)
		}
		agree(t, order.Sort(l, o), modelSort(texts(l), o), "Sort(%q, %v)", l, o)
	}
}

// P16.2: Compare is an order: what follows from two comparisons holds.
func TestCompareIsAnOrder(t *testing.T) {
	d := draw{rand.New(rand.NewSource(18))}
	for range 50000 {
		o := d.order()
		a, b, c := []byte(d.line()), []byte(d.line()), []byte(d.line())
		ab, bc, ac := order.Compare(a, b, o), order.Compare(b, c, o), order.Compare(a, c, o)
		if ab <= 0 && bc <= 0 && (ac > 0 || ac == 0 && ab+bc < 0) || ab != -order.Compare(b, a, o) {
			t.Fatalf("%q, %q, %q by %v: %d, %d, %d", a, b, c, o, ab, bc, ac)
		}
	}
}

// P16.3 to P16.5: Uniq, Comm and Join of all short lists of a few lines.
func TestModelOfShortLists(t *testing.T) {
	lists := everyList(3, "1 a", "1 b", "2", "")
	for i, a := range lists {
		for fields := -1; fields < 3; fields++ {
			agree(t, uniqText(a, fields, i%3, i%2 == 0), modelUniq(texts(a), fields, i%3, i%2 == 0), "Uniq(%q, %d, %d)", a, fields, i%3)
		}
		for j, b := range lists {
			for hide := range 8 {
				agree(t, order.Comm(a, b, hide), modelComm(texts(a), texts(b), hide), "Comm(%q, %q, %d)", a, b, hide)
			}
			for alone := range 4 {
				sep, fa, fb := []byte{0, ' ', '1'}[(i+j)%3], 1+i%3, 1+j%3
				got, e := order.Join(a, b, fa, fb, sep, alone)
				agree(t, got, modelJoin(texts(a), texts(b), fa, fb, sep, alone), "Join(%q, %q, %d, %d, %q, %d) %d", a, b, fa, fb, sep, alone, int(e))
			}
		}
	}
}

// uniqText: what Uniq answers, as the model tells it.
func uniqText(l [][]byte, fields, chars int, fold bool) string {
	out, counts := order.Uniq(l, fields, chars, fold)
	return fmt.Sprintf("%q %v", out, counts)
}

// P16.3 to P16.5: likewise of lists that are drawn.
func TestModelOfLists(t *testing.T) {
	d := draw{rand.New(rand.NewSource(19))}
	far := append([]int{-1, 0, 1, 2, 3}, farInts...)
	for range 20000 {
		a, b := d.lines(10), d.lines(10)
		fields, chars, fold := one(d, far...), one(d, far...), d.Intn(2) == 0
		agree(t, uniqText(a, fields, chars, fold), modelUniq(texts(a), fields, chars, fold), "Uniq(%q, %d, %d, %v)", a, fields, chars, fold)
		hide := one(d, d.Intn(8), d.Intn(8), d.Intn(64)-32, one(d, farInts...))
		agree(t, order.Comm(a, b, hide), modelComm(texts(a), texts(b), hide), "Comm(%q, %q, %d)", a, b, hide)
		fa, fb, sep, alone := one(d, 1, 1, 2, 3, math.MaxInt), one(d, 1, 1, 2, 3, math.MaxInt), one[byte](d, 0, 0, ':', ' ', '\t', 'a'), one(d, d.Intn(4), d.Intn(64)-32, one(d, farInts...))
		got, e := order.Join(a, b, fa, fb, sep, alone)
		agree(t, got, modelJoin(texts(a), texts(b), fa, fb, sep, alone), "Join(%q, %q, %d, %d, %q, %d) %d", a, b, fa, fb, sep, alone, int(e))
	}
}
