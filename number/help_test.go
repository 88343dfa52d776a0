package number_test

import (
	"fmt"
	"testing"

	"tinsel/api"
	"tinsel/number"
)

// The calls, with the signatures that the chapter lists.
var (
	_ func(string) (int, api.Errno)          = number.Int
	_ func(string) (int, api.Errno)          = number.Size
	_ func(string) (int, api.Errno)          = number.Octal
	_ func(int) string                       = number.Human
	_ func(string) ([]api.Range, api.Errno)  = number.Ranges
	_ func([]api.Range, int) bool            = number.Has
	_ func([]api.Range) string               = number.Print
	_ func(string, int64) (int64, api.Errno) = number.Date
	_ func(int64) string                     = number.Stamp
	_ func(string) (int, int, api.Errno)     = number.Owner
)

// The greatest number of a text.
const top = api.MaxNumber

// reader is a call that reads a number.
type reader struct {
	name string
	read func(string) (int, api.Errno)
}

var (
	readInt   = reader{"Int", number.Int}
	readSize  = reader{"Size", number.Size}
	readOctal = reader{"Octal", number.Octal}
)

// brief: a text quoted, or how it begins and how long it is.
func brief(s string) string {
	if len(s) <= 300 {
		return fmt.Sprintf("%q", s)
	}
	return fmt.Sprintf("%q.. (%d bytes)", s[:300], len(s))
}

// is: a text that a call answered.
func is(t *testing.T, what, got, want string) {
	t.Helper()
	if got != want {
		t.Errorf("%s: %s, want %s", brief(what), brief(got), brief(want))
	}
}

// reads: a call answers this number.
func reads(t *testing.T, r reader, s string, want int) {
	t.Helper()
	if n, e := r.read(s); n != want || e != api.OK {
		t.Errorf("%s(%s): %d, %v, want %d", r.name, brief(s), n, e, want)
	}
}

// fails: a call answers this error of each text, and beside it nothing.
func fails(t *testing.T, r reader, want api.Errno, texts ...string) {
	t.Helper()
	for _, s := range texts {
		if n, e := r.read(s); n != 0 || e != want {
			t.Errorf("%s(%s): %d, %v, want 0, %v", r.name, brief(s), n, e, want)
		}
	}
}

// between: ranges of their ends, two by two.
func between(ends ...int) []api.Range {
	var l []api.Range
	for i := 0; i+1 < len(ends); i += 2 {
		l = append(l, api.Range{Lo: ends[i], Hi: ends[i+1]})
	}
	return l
}

// listed: what Ranges answered; nil and empty lists look the same.
func listed(l []api.Range, e api.Errno) string { return fmt.Sprint(l, " ", e) }

// ranges: Ranges answers these.
func ranges(t *testing.T, s string, ends ...int) {
	t.Helper()
	l, e := number.Ranges(s)
	is(t, "Ranges("+brief(s)+")", listed(l, e), listed(between(ends...), api.OK))
}

// noRanges: Ranges answers this error of each text, and beside it nothing.
func noRanges(t *testing.T, want api.Errno, texts ...string) {
	t.Helper()
	for _, s := range texts {
		l, e := number.Ranges(s)
		is(t, "Ranges("+brief(s)+")", listed(l, e), listed(nil, want))
	}
}

// dates: Date answers the second that has this stamp.
func dates(t *testing.T, s string, now int64, want string) {
	t.Helper()
	d, e := number.Date(s, now)
	if got := number.Stamp(d); got != want || e != api.OK {
		t.Errorf("Date(%q, %d): %d (%s), %v, want %s", s, now, d, got, e, want)
	}
}

// second: Date answers it.
func second(t *testing.T, s string, now, want int64) {
	t.Helper()
	if d, e := number.Date(s, now); d != want || e != api.OK {
		t.Errorf("Date(%q, %d): %d, %v, want %d", s, now, d, e, want)
	}
}

// noDate: Date answers EINVAL of each text, and beside it nothing.
func noDate(t *testing.T, now int64, texts ...string) {
	t.Helper()
	for _, s := range texts {
		if d, e := number.Date(s, now); d != 0 || e != api.EINVAL {
			t.Errorf("Date(%s, %d): %d, %v, want none", brief(s), now, d, e)
		}
	}
}

// owner: what Owner answered.
func owner(u, g int, e api.Errno) string { return fmt.Sprintf("%d %d %v", u, g, e) }

// owns: Owner answers these.
func owns(t *testing.T, s string, user, group int) {
	t.Helper()
	u, g, e := number.Owner(s)
	is(t, "Owner("+brief(s)+")", owner(u, g, e), owner(user, group, api.OK))
}

// noOwner: Owner answers this error of each text, and beside it nothing.
func noOwner(t *testing.T, want api.Errno, texts ...string) {
	t.Helper()
	for _, s := range texts {
		u, g, e := number.Owner(s)
		is(t, "Owner("+brief(s)+")", owner(u, g, e), owner(0, 0, want))
	}
}

// everyText: the texts of at most n of these letters, the empty one first.
func everyText(letters string, n int) []string {
	all, last := []string{""}, []string{""}
	for range n {
		var next []string
		for _, s := range last {
			for _, c := range []byte(letters) {
				next = append(next, s+string([]byte{c}))
			}
		}
		all, last = append(all, next...), next
	}
	return all
}
