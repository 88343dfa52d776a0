package number_test

import (
	"fmt"
	"math"
	"math/big"
	"math/rand"
	"regexp"
	"slices"
	"strings"
	"testing"
	"time"

	"tinsel/api"
	"tinsel/number"
)

// The models tell each call another way: texts by patterns, numbers without
// an end, ranges by the numbers that they hold, times by the library's calendar.

var (
	intForm   = regexp.MustCompile(`^(-?)([0-9]+)$`)
	sizeForm  = regexp.MustCompile(`^([0-9]+)([cwbkKMG]?)$`)
	octalForm = regexp.MustCompile(`^[0-7]+$`)
	itemForm  = regexp.MustCompile(`^([0-9]+)$|^([0-9]+)-([0-9]*)$|^-([0-9]+)$`)
	dateForm  = regexp.MustCompile(`^([0-9]{4}|[0-9]{2}|)([0-9]{8})(\.[0-9]{2})?$`)
	ownerForm = regexp.MustCompile(`^([0-9]*)(:[0-9]*)?$`)
)

// whole: a number of any size.
func whole(digits string, base int) *big.Int {
	n, ok := new(big.Int).SetString(digits, base)
	if !ok {
		panic("no digits: " + digits)
	}
	return n
}

// bounded: a number, if its size is at most most.
func bounded(n *big.Int, most int64) (int, api.Errno) {
	if n.CmpAbs(big.NewInt(most)) > 0 {
		return 0, api.ERANGE
	}
	return int(n.Int64()), api.OK
}

func modelInt(s string) (int, api.Errno) {
	if !intForm.MatchString(s) {
		return 0, api.EINVAL
	}
	return bounded(whole(s, 10), top)
}

func modelSize(s string) (int, api.Errno) {
	m := sizeForm.FindStringSubmatch(s)
	if m == nil {
		return 0, api.EINVAL
	}
	n := whole(m[1], 10)
	return bounded(n.Mul(n, big.NewInt(int64(units[m[2]]))), top)
}

func modelOctal(s string) (int, api.Errno) {
	if !octalForm.MatchString(s) {
		return 0, api.EINVAL
	}
	return bounded(whole(s, 8), top)
}

func modelOwner(s string) (int, int, api.Errno) {
	m := ownerForm.FindStringSubmatch(s)
	if m == nil || m[1] == "" && len(m[2]) < 2 {
		return 0, 0, api.EINVAL
	}
	got := [2]int{-1, -1}
	for i, digits := range []string{m[1], strings.TrimPrefix(m[2], ":")} {
		if digits == "" {
			continue
		}
		n, e := bounded(whole(digits, 10), math.MaxInt32)
		if e != api.OK {
			return 0, 0, e
		}
		got[i] = n
	}
	return got[0], got[1], api.OK
}

// modelHuman: rounded up by quotients, units tried one behind another.
func modelHuman(n int) string {
	size := big.NewInt(int64(n))
	sign := ""
	if size.Sign() < 0 {
		sign = "-"
	}
	size.Abs(size)
	if size.Cmp(big.NewInt(1024)) < 0 {
		return sign + size.String()
	}
	unit := big.NewInt(1)
	for _, name := range strings.Split("K M G T P E", " ") {
		unit.Mul(unit, big.NewInt(1024))
		tenths := roundedUp(new(big.Int).Mul(size, big.NewInt(10)), unit)
		if tenths < 100 {
			return fmt.Sprintf("%s%d.%d%s", sign, tenths/10, tenths%10, name)
		}
		if n := roundedUp(size, unit); n < 1024 {
			return fmt.Sprintf("%s%d%s", sign, n, name)
		}
	}
	return "none"
}

// roundedUp: a quotient.
func roundedUp(n, by *big.Int) int64 {
	q, rest := new(big.Int).QuoRem(n, by, new(big.Int))
	if rest.Sign() > 0 {
		q.Add(q, big.NewInt(1))
	}
	return q.Int64()
}

// modelItem: an item's range; false: it is none. Ends are of any size; none of one that has no end.
func modelItem(item string) (lo, hi *big.Int, ok bool) {
	m := itemForm.FindStringSubmatch(item)
	switch {
	case m == nil:
		return nil, nil, false
	case m[1] != "":
		lo, hi = whole(m[1], 10), whole(m[1], 10)
	case m[4] != "":
		lo, hi = big.NewInt(1), whole(m[4], 10)
	case m[3] != "":
		lo, hi = whole(m[2], 10), whole(m[3], 10)
	default:
		lo = whole(m[2], 10)
	}
	return lo, hi, lo.Sign() > 0 && (hi == nil || hi.Sign() > 0 && hi.Cmp(lo) >= 0)
}

// modelItems: the ranges of all items, as they stand in the text.
func modelItems(s string) ([]api.Range, api.Errno) {
	var l []api.Range
	e := api.OK
	for _, item := range strings.Split(s, ",") {
		lo, hi, ok := modelItem(item)
		if !ok {
			return nil, api.EINVAL
		}
		r := api.Range{Hi: -1}
		var f, g api.Errno
		if r.Lo, f = bounded(lo, top); hi != nil {
			r.Hi, g = bounded(hi, top)
		}
		if f != api.OK || g != api.OK {
			e = api.ERANGE
		}
		l = append(l, r)
	}
	if e != api.OK {
		return nil, e
	}
	return l, api.OK
}

// holds: is a number in one of the ranges?
func holds(l []api.Range, n int) bool {
	for _, r := range l {
		if r.Hi == -1 && r.Lo <= n || r.Lo <= n && n <= r.Hi {
			return true
		}
	}
	return false
}

// modelJoined: the ranges that hold what l holds: one begins where the number ahead is not held, and ends where the next one is not.
func modelJoined(l []api.Range) []api.Range {
	var begins, ends []int
	for _, r := range l {
		if !holds(l, r.Lo-1) {
			begins = append(begins, r.Lo)
		}
		if r.Hi != -1 && !holds(l, r.Hi+1) {
			ends = append(ends, r.Hi)
		}
	}
	slices.Sort(begins)
	slices.Sort(ends)
	begins, ends = slices.Compact(begins), append(slices.Compact(ends), -1)
	var got []api.Range
	for i, lo := range begins {
		got = append(got, api.Range{Lo: lo, Hi: ends[i]})
	}
	return got
}

// modelDate: by the library's calendar, whose times are told back.
func modelDate(s string, now int64) (int64, api.Errno) {
	m := dateForm.FindStringSubmatch(s)
	if m == nil {
		return 0, api.EINVAL
	}
	year := m[1]
	switch {
	case year == "" && (now < firstSecond || now > lastSecond):
		return 0, api.EINVAL
	case year == "":
		year = time.Unix(now, 0).UTC().Format("2006")
	case len(year) == 2 && year >= "69":
		year = "19" + year
	case len(year) == 2:
		year = "20" + year
	}
	at, err := time.Parse("20060102 150405", year+m[2][:4]+" "+m[2][4:]+strings.TrimPrefix(m[3]+".00", ".")[:2])
	if err != nil {
		return 0, api.EINVAL
	}
	return at.Unix(), api.OK
}

// modelStamp: by the library's calendar.
func modelStamp(t int64) string {
	if t < firstSecond || t > lastSecond {
		return "?"
	}
	return time.Unix(t, 0).UTC().Format("2006-01-02 15:04:05")
}

// agree: the calls that read a text say what the models say.
func agree(t *testing.T, s string) {
	t.Helper()
	for _, x := range []struct {
		reader
		model func(string) (int, api.Errno)
	}{{readInt, modelInt}, {readSize, modelSize}, {readOctal, modelOctal}} {
		n, e := x.read(s)
		m, f := x.model(s)
		if n != m || e != f {
			t.Errorf("%s(%s): %d, %v, want %d, %v", x.name, brief(s), n, e, m, f)
		}
	}
	is(t, "Owner("+brief(s)+")", owner(number.Owner(s)), owner(modelOwner(s)))
}

// agreeRanges: Ranges and Has say what the models say.
func agreeRanges(t *testing.T, s string) {
	t.Helper()
	l, e := number.Ranges(s)
	items, f := modelItems(s)
	if f != api.OK {
		is(t, "Ranges("+brief(s)+")", listed(l, e), listed(nil, f))
		return
	}
	is(t, "Ranges("+brief(s)+")", listed(l, e), listed(modelJoined(items), api.OK))
	sameNumbers(t, s, l, items)
}

// sameNumbers: P11.7, Has of both says the same, at all ends, beside them, and far away.
func sameNumbers(t *testing.T, s string, l, items []api.Range) {
	t.Helper()
	points := []int{math.MinInt, -2, -1, 0, 1, 2, top, top + 1, math.MaxInt}
	for _, r := range items {
		points = append(points, r.Lo-1, r.Lo, r.Lo+1, r.Hi-1, r.Hi, r.Hi+1)
	}
	for _, n := range points {
		if got, want := number.Has(l, n), holds(items, n); got != want || number.Has(items, n) != want {
			t.Errorf("Has(%v, %d) of %s: %v, want %v", l, n, brief(s), got, want)
		}
	}
}

// P11.1, P11.5: all short texts.
func TestShortTexts(t *testing.T) {
	for _, s := range everyText("0179-+:kM x", 4) {
		agree(t, s)
	}
	for _, s := range everyText("09-:", 6) {
		agree(t, s)
	}
	for c := range 256 {
		for d := range 256 {
			agree(t, string([]byte{byte(c), byte(d)}))
		}
	}
}

// drawn: a text of at most n of these words.
func drawn(r *rand.Rand, n int, words ...string) string {
	var b strings.Builder
	for range r.Intn(n + 1) {
		b.WriteString(words[r.Intn(len(words))])
	}
	return b.String()
}

// P11.1, P11.5: longer texts, with numbers about the ends.
func TestDrawnTexts(t *testing.T) {
	r := rand.New(rand.NewSource(11))
	about := []int64{0, 1, 1 << 31, top, top / 2, top / 512, top / 1024, top >> 20, top >> 30, math.MaxInt32, 1 << 32, 1 << 62}
	for range 60000 {
		n := about[r.Intn(len(about))] + int64(r.Intn(7)-3)
		form := []string{"%d", "%d", "00%d", "-%d", "%o", "0%o"}[r.Intn(6)]
		agree(t, fmt.Sprintf(form, n)+drawn(r, 1, "c", "w", "b", "k", "K", "M", "G", ":", ":2147483647", ":2147483648", "0", "9", "x"))
		agree(t, drawn(r, 25, "0", "1", "2", "3", "4", "5", "6", "7", "8", "9", "0", "7")+drawn(r, 2, "c", "w", "b", "k", "K", "M", "G", ":", "-", "7"))
		agree(t, drawn(r, 8, "-", "+", "0", "1", "7", "8", "9", "k", ":", "2147483647", "2147483648", "\xff", " "))
	}
}

// P11.2: all small numbers, those about each unit's multiples, and drawn ones.
func TestHumanByModel(t *testing.T) {
	ask := func(n int) { is(t, fmt.Sprintf("Human(%d)", n), number.Human(n), modelHuman(n)) }
	for n := -2000; n < 20000; n++ {
		ask(n)
	}
	for shift := 10; shift <= 60; shift += 10 {
		for _, by := range []int{1, 2, 3, 5, 7, 9, 10, 11, 99, 100, 512, 999, 1000, 1022, 1023, 1024} {
			if by > math.MaxInt>>shift {
				break
			}
			for d := -3; d <= 3; d++ {
				ask(by<<shift + d)
				ask(-(by<<shift + d))
				ask(by<<shift - 1<<(shift-10) + d)
				ask(by<<shift + 1<<shift/10 + d)
				ask(by<<shift - 1<<shift/10 + d)
			}
		}
	}
	r := rand.New(rand.NewSource(2))
	for range 100000 {
		ask(int(r.Uint64()) >> r.Intn(64))
	}
	for d := range 1000 {
		ask(math.MaxInt - d)
		ask(math.MinInt + d)
	}
}

// P11.3, P11.7: all short texts of digits, dashes and commas.
func TestShortRanges(t *testing.T) {
	for _, s := range everyText("0123-,", 6) {
		agreeRanges(t, s)
	}
	for _, s := range everyText("12-, x+", 5) {
		agreeRanges(t, s)
	}
}

// P11.3, P11.7: many items, also such as are too great or none.
func TestDrawnRanges(t *testing.T) {
	r := rand.New(rand.NewSource(3))
	item := func() string {
		n, m := 1+r.Intn(60), 1+r.Intn(60)
		switch r.Intn(40) {
		case 0:
			return []string{"0", "", "-", "x", "1-0", "3--4", "1000000000000000000", "1000000000000000001-1000000000000000000", "7-18446744073709551617"}[r.Intn(9)]
		case 1:
			return fmt.Sprintf("%d-", n)
		case 2:
			return fmt.Sprintf("-%d", m)
		case 3, 4, 5, 6:
			return fmt.Sprintf("%d-%d", min(n, m), max(n, m))
		case 7, 8, 9, 10:
			return fmt.Sprintf("00%d-0%d", n, n+r.Intn(4))
		}
		return fmt.Sprint(n)
	}
	for range 30000 {
		l := make([]string, 1+r.Intn(9))
		for i := range l {
			l[i] = item()
		}
		agreeRanges(t, strings.Join(l, ","))
	}
}

// P11.3, P11.7: numbers that lie far apart.
func TestDrawnGreatRanges(t *testing.T) {
	r := rand.New(rand.NewSource(4))
	for range 10000 {
		var l []string
		for range 1 + r.Intn(6) {
			n := 1 + r.Int63n(top)>>r.Intn(60)
			m := n + r.Int63n(top-n+1)
			l = append(l, []string{fmt.Sprint(n), fmt.Sprint(n, "-", m), fmt.Sprint(n, "-"), fmt.Sprint("-", n), fmt.Sprint(n, "-", n+1)}[r.Intn(5)])
		}
		agreeRanges(t, strings.Join(l, ","))
	}
}

// P11.4: texts that are nearly dates, with any now.
func TestDrawnDates(t *testing.T) {
	r := rand.New(rand.NewSource(5))
	part := func(lo, hi int) string {
		if r.Intn(30) == 0 {
			return drawn(r, 3, "0", "1", "2", "3", "6", "9", ".", "x", "-")
		}
		return fmt.Sprintf("%02d", lo+r.Intn(hi-lo+1))
	}
	for range 200000 {
		s := part(0, 99) + part(0, 99)
		s = s[:min(len(s), []int{0, 2, 4, 4}[r.Intn(4)])]
		s += part(0, 13) + part(0, 32) + part(0, 24) + part(0, 60)
		if r.Intn(2) == 0 {
			s += "." + part(0, 60)
		}
		now := []int64{0, -1, r.Int63n(1 << 33), -r.Int63n(1 << 33), firstSecond + r.Int63n(lastSecond-firstSecond), firstSecond - r.Int63n(3), lastSecond + r.Int63n(3), int64(r.Uint64())}[r.Intn(8)]
		d, e := number.Date(s, now)
		m, f := modelDate(s, now)
		if d != m || e != f {
			t.Errorf("Date(%q, %d): %d, %v, want %d, %v", s, now, d, e, m, f)
		}
	}
}

// P11.4: the stamps of drawn seconds, of the first and the last one of each year, and of each day about its end of February.
func TestStampByModel(t *testing.T) {
	ask := func(at int64) { is(t, fmt.Sprintf("Stamp(%d)", at), number.Stamp(at), modelStamp(at)) }
	for year := -2; year <= 10002; year++ {
		begin := time.Date(year, 1, 1, 0, 0, 0, 0, time.UTC).Unix()
		ask(begin - 1)
		ask(begin)
		for d := int64(57); d < 62; d++ {
			ask(begin + d*day - 1)
		}
	}
	r := rand.New(rand.NewSource(6))
	for range 100000 {
		ask(firstSecond + r.Int63n(lastSecond-firstSecond+1))
		ask(int64(r.Uint64()) >> r.Intn(64))
	}
}
