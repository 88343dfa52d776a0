package number_test

import (
	"fmt"
	"math"
	"slices"
	"strings"
	"sync"
	"testing"

	"tinsel/api"
	"tinsel/number"
)

// The chapter's examples.
func TestExamples(t *testing.T) {
	reads(t, readInt, "-007", -7)
	fails(t, readInt, api.ERANGE, "1000000000000000000")
	reads(t, readSize, "2k", 2048)
	is(t, "Human(1536)", number.Human(1536), "1.5K")
	is(t, "Human(1024 * 1024 - 1)", number.Human(1024*1024-1), "1.0M")
	is(t, "Human(10241)", number.Human(10241), "11K")
	ranges(t, "7-,3-4,1,5", 1, 1, 3, 5, 7, -1)
	noRanges(t, api.EINVAL, "3-1", "0", "-")
	second(t, "7001010000.01", 0, 1)
	noDate(t, 0, "02300000")
	is(t, "Stamp(86399)", number.Stamp(86399), "1970-01-01 23:59:59")
	owns(t, "1:", 1, -1)
}

// picture: what all calls say of a text, a number and some ranges.
func picture(s string, n int, l []api.Range) string {
	var b strings.Builder
	for _, r := range []reader{readInt, readSize, readOctal} {
		m, e := r.read(s)
		fmt.Fprint(&b, m, " ", e, " ")
	}
	fmt.Fprint(&b, listed(number.Ranges(s)), " ", owner(number.Owner(s)), " ")
	d, e := number.Date(s, int64(n))
	fmt.Fprint(&b, d, " ", e, " ", number.Human(n), " ", number.Stamp(int64(n)), " ", number.Has(l, n), " ", number.Print(l))
	return b.String()
}

// oddTexts: some of them are numbers, lists, dates, owners.
func oddTexts() []string {
	l := []string{"", "-", ",", ".", ":", "0", "1", "-1", "1-", "-5", "2-4,3-,1", "1:2", "01010000", "7001010000.01", "02290000", "2k", "777", "999999999999999999", "\x00", "\xff", "1\xff", "é", "\ufffd", "１"}
	for _, s := range []string{"0", "1", "9", "-", ",", ".", ":", "1,", "1-", "-1,", "k", "\x80", "é", "\xff"} {
		l = append(l, strings.Repeat(s, 1000), strings.Repeat(s, 1000)+"1")
	}
	return l
}

// oddNumbers: at their ends, and in between.
var oddNumbers = []int{0, 1, -1, 1023, 1024, -1024, 86399, top, -top, top + 1, math.MaxInt, math.MinInt, firstSecond, firstSecond - 1, lastSecond, lastSecond + 1}

// oddRanges: such as no call tells, too.
func oddRanges() [][]api.Range {
	l := [][]api.Range{nil, {}, {{}}, between(1, 1, 3, -1), between(5, 3), between(-1, -1), between(-5, -3, 0, 0)}
	var all []api.Range
	for i, n := range oddNumbers {
		all = append(all, api.Range{Lo: n, Hi: oddNumbers[len(oddNumbers)-1-i]}, api.Range{Lo: n, Hi: n}, api.Range{Lo: n, Hi: -1})
	}
	return append(l, all)
}

// R1, R4: no call panics, each ends, and says the same again.
func TestOddArguments(t *testing.T) {
	lists := oddRanges()
	for _, s := range oddTexts() {
		for i, n := range oddNumbers {
			l := lists[i%len(lists)]
			is(t, "again", picture(s, n, l), picture(s, n, slices.Clone(l)))
		}
	}
	for _, l := range lists {
		for _, n := range oddNumbers {
			is(t, "again", picture("1", n, l), picture("1", n, slices.Clone(l)))
		}
	}
}

// R3: nil and empty lists are the same.
func TestNoList(t *testing.T) {
	for _, n := range oddNumbers {
		is(t, "no ranges", picture("1", n, nil), picture("1", n, []api.Range{}))
	}
	is(t, "Print(nil)", number.Print(nil), "")
	is(t, "Print of none", number.Print([]api.Range{}), "")
}

// R1: great texts and lists are gone through in a short time.
func TestGreatTexts(t *testing.T) {
	const n = 1 << 20
	for _, r := range []reader{readInt, readSize, readOctal} {
		reads(t, r, strings.Repeat("0", n)+"7", 7)
		fails(t, r, api.ERANGE, strings.Repeat("7", n))
		fails(t, r, api.EINVAL, strings.Repeat("7", n)+"x", strings.Repeat("k", n), strings.Repeat("-", n))
	}
	owns(t, strings.Repeat("0", n)+"1:"+strings.Repeat("0", n), 1, 0)
	noOwner(t, api.EINVAL, strings.Repeat(":", n), strings.Repeat("9", n)+"::")
	noDate(t, 0, strings.Repeat("1", n), strings.Repeat(".", n), "01010000."+strings.Repeat("0", n))
	noRanges(t, api.EINVAL, strings.Repeat(",", n), strings.Repeat("1,", n), strings.Repeat("-", n), strings.Repeat("1-", n))
	noRanges(t, api.EINVAL, "2"+strings.Repeat("1", n)+"-1"+strings.Repeat("9", n))
	ranges(t, strings.Repeat("5,", n)+"3", 3, 3, 5, 5)
	ranges(t, strings.Repeat("5-,", n)+"4", 4, -1)
}

// R1: many ranges, falling, that stay apart, and that become one by a last item.
func TestManyRanges(t *testing.T) {
	const n = 200000
	var b strings.Builder
	for i := n; i > 0; i-- {
		fmt.Fprintf(&b, "%d,", 3*i)
	}
	l, e := number.Ranges(b.String() + "1")
	if len(l) != n+1 || e != api.OK || l[0] != (api.Range{Lo: 1, Hi: 1}) || l[n] != (api.Range{Lo: 3 * n, Hi: 3 * n}) {
		t.Fatalf("many: %d, %v", len(l), e)
	}
	if !number.Has(l, 3*n) || number.Has(l, 3*n-1) {
		t.Error("Has of many")
	}
	if again, e := number.Ranges(number.Print(l)); !slices.Equal(l, again) || e != api.OK {
		t.Errorf("Print of many: %d, %v", len(again), e)
	}
	ranges(t, b.String()+fmt.Sprintf("2-%d", 3*n-1), 2, 3*n)
	ranges(t, b.String()+"2-", 2, -1)
}

// R2: beside an error stands nothing; what went well ahead of what is wrong is not told.
func TestNothingBesideAnError(t *testing.T) {
	fails(t, readInt, api.EINVAL, "12x", "-12x")
	fails(t, readInt, api.ERANGE, "9999999999999999999", "-9999999999999999999")
	fails(t, readSize, api.EINVAL, "12x", "12kx")
	fails(t, readSize, api.ERANGE, "99999999999999999k", "999999999999999999w")
	fails(t, readOctal, api.EINVAL, "128")
	fails(t, readOctal, api.ERANGE, "77777777777777777777777")
	noRanges(t, api.EINVAL, "1,2,x", "5-,0")
	noRanges(t, api.ERANGE, "1,2,1000000000000000000", "5-1000000000000000000")
	noDate(t, 0, "7002030405.60", "7002030460", "7002032400", "7002300000", "7013010000", "70020304050")
	noOwner(t, api.EINVAL, "1:x", "1:2:3")
	noOwner(t, api.ERANGE, "1:2147483648", "2147483648:1")
}

// spoil: all that belongs to a list, its spare room too.
func spoil(l []api.Range) {
	l = l[:cap(l)]
	for i := range l {
		l[i] = api.Range{Lo: -99, Hi: 99}
	}
}

// R3: what is handed in is not changed, nor what lies behind its end; and it is not looked at there.
func TestHandedInStays(t *testing.T) {
	for n := range 7 {
		l := between(9, 9, 5, 7, 5, 3, 1, -1, -1, -1, 0, 2)
		had := slices.Clone(l)
		for m := -2; m < 12; m++ {
			is(t, "alone", picture("1", m, l[:n]), picture("1", m, slices.Clone(l[:n:n])))
		}
		if !slices.Equal(l, had) {
			t.Errorf("what was handed in: %v", l)
		}
	}
}

// R3: an answer is new memory: a caller may change it and its spare room, and no other answer changes by it.
func TestAnswerIsNew(t *testing.T) {
	for _, s := range []string{"1", "2-5", "3-", "-4", "7-,3-4,1,5", "9,7,5,3,1", "1-9,2,3,4,5", "5-,1", "1,2,3,4,5,6,7,8,9,11"} {
		one, _ := number.Ranges(s)
		want := slices.Clone(one)
		two, _ := number.Ranges(s)
		spoil(two)
		three, e := number.Ranges(s)
		is(t, "the first answer", listed(one, api.OK), listed(want, api.OK))
		is(t, "the third answer", listed(three, e), listed(want, api.OK))
	}
}

// R3, R4: a list that is changed behind a call counts for the next one; nothing is kept.
func TestNothingIsKept(t *testing.T) {
	l := between(1, 2, 5, -1)
	has(t, l, []int{1, 2, 5, 9}, []int{0, 3, 4})
	s := number.Print(l)
	l[0], l[1] = api.Range{Lo: 7, Hi: 7}, api.Range{Lo: 3, Hi: 3}
	has(t, l, []int{3, 7}, []int{1, 2, 5, 9})
	is(t, "the text", s, "1-2,5-")
	is(t, "Print", number.Print(l), "7,3")
	second(t, "01010000", 400*day, 365*day)
	second(t, "01010000", 0, 0) // no year is left of the call ahead
	dates(t, "9901010000", 0, "1999-01-01 00:00:00")
	second(t, "01010000", 0, 0)
	fails(t, readInt, api.ERANGE, nines)
	reads(t, readInt, "1", 1)
}

// R4: the same answers, whoever else asks at the same time.
func TestManyAtOnce(t *testing.T) {
	texts, l := oddTexts(), between(1, 2, 5, -1)
	want := make([]string, len(texts))
	for i, s := range texts {
		want[i] = picture(s, oddNumbers[i%len(oddNumbers)], l)
	}
	got := make([]string, 8*len(texts))
	var all sync.WaitGroup
	for i := range got {
		all.Go(func() {
			at := i % len(texts)
			got[i] = picture(texts[at], oddNumbers[at%len(oddNumbers)], l)
		})
	}
	all.Wait()
	for i := range got {
		is(t, "at once", got[i], want[i%len(texts)])
	}
}

// R6, R7: numbers at their ends are told by their digits, without noughts ahead.
func TestNumbersAtTheirEnds(t *testing.T) {
	is(t, "Print", number.Print(between(math.MinInt, math.MaxInt)), "-9223372036854775808-9223372036854775807")
	is(t, "Print", number.Print(again(t, "0007,0010-020")), "7,10-20")
	is(t, "Print", number.Print(again(t, noughts+"1-"+noughts+"999999999999999999")), "1-999999999999999999")
	is(t, "Human", number.Human(math.MinInt), "-8.0E")
	is(t, "Stamp", number.Stamp(math.MinInt64)+number.Stamp(math.MaxInt64), "??")
}
