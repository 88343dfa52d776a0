package regex_test

import (
	"fmt"
	"iter"
	"strings"
	"testing"

	"tinsel/api"
	"tinsel/regex"
)

// The calls, with the signatures that the chapter lists.
var (
	_ func(string, bool, bool) (*regex.Regex, api.Errno)                     = regex.Compile
	_ func(*regex.Regex) int                                                 = (*regex.Regex).Groups
	_ func(*regex.Regex, string, int) ([]api.Span, bool)                     = (*regex.Regex).Find
	_ func(*regex.Regex, string) bool                                        = (*regex.Regex).Match
	_ func(*regex.Regex, string) bool                                        = (*regex.Regex).Whole
	_ func(*regex.Regex, string) iter.Seq[[]api.Span]                        = (*regex.Regex).All
	_ func(*regex.Regex, string, string, int, bool) (string, int, api.Errno) = (*regex.Regex).Replace
	_ func(string, bool) string                                              = regex.Quote
)

// Kinds of patterns.
const (
	basic    = 0
	extended = 1
	fold     = 2
)

// brief: a text quoted, or how it begins and how long it is.
func brief(s string) string {
	if len(s) <= 200 {
		return fmt.Sprintf("%q", s)
	}
	return fmt.Sprintf("%q.. (%d bytes)", s[:200], len(s))
}

// is: what a call answered, as text.
func is(t *testing.T, what, got, want string) {
	t.Helper()
	if got != want {
		t.Errorf("%s: %s, want %s", what, brief(got), brief(want))
	}
}

// compile: as Compile answers.
func compile(p string, kind int) (*regex.Regex, api.Errno) {
	return regex.Compile(p, kind&extended != 0, kind&fold != 0)
}

// must: a pattern that is one.
func must(t *testing.T, p string, kind int) *regex.Regex {
	t.Helper()
	r, e := compile(p, kind)
	if e != api.OK || r == nil {
		t.Fatalf("%s, kind %d: %v, %v", brief(p), kind, r, e)
	}
	return r
}

// good: all of these are patterns.
func good(t *testing.T, kind int, patterns ...string) {
	t.Helper()
	for _, p := range patterns {
		if r, e := compile(p, kind); r == nil || e != api.OK {
			t.Errorf("%s, kind %d: %v, %v", brief(p), kind, r, e)
		}
	}
}

// bad: none of these is; EREGEX, and nothing beside it.
func bad(t *testing.T, kind int, patterns ...string) {
	t.Helper()
	for _, p := range patterns {
		if r, e := compile(p, kind); r != nil || e != api.EREGEX {
			t.Errorf("%s, kind %d: %v, %v", brief(p), kind, r, e)
		}
	}
}

// spans: what Find answered.
func spans(l []api.Span, ok bool) string {
	if !ok {
		return fmt.Sprint("false ", len(l))
	}
	return fmt.Sprint(l)
}

// pairs: the same of numbers, two of each span.
func pairs(n ...int) string {
	var l []api.Span
	for i := 0; i+1 < len(n); i += 2 {
		l = append(l, api.Span{Lo: n[i], Hi: n[i+1]})
	}
	return spans(l, true)
}

// finds: the first match in a text, and its groups.
func finds(t *testing.T, p string, kind int, s string, want ...int) {
	t.Helper()
	r := must(t, p, kind)
	is(t, fmt.Sprintf("%s, kind %d, in %s", brief(p), kind, brief(s)), spans(r.Find(s, 0)), pairs(want...))
	if !r.Match(s) || r.Groups() != len(want)/2-1 {
		t.Errorf("%s, kind %d, in %s: Match %v, Groups %d", brief(p), kind, brief(s), r.Match(s), r.Groups())
	}
}

// misses: there is no match in any of these.
func misses(t *testing.T, p string, kind int, texts ...string) {
	t.Helper()
	r := must(t, p, kind)
	for _, s := range texts {
		is(t, fmt.Sprintf("%s, kind %d, in %s", brief(p), kind, brief(s)), spans(r.Find(s, 0)), "false 0")
		if r.Match(s) || r.Whole(s) {
			t.Errorf("%s, kind %d, in %s: Match %v, Whole %v", brief(p), kind, brief(s), r.Match(s), r.Whole(s))
		}
	}
}

// whole: these are matched from end to end.
func whole(t *testing.T, p string, kind int, texts ...string) {
	t.Helper()
	r := must(t, p, kind)
	for _, s := range texts {
		if !r.Whole(s) {
			t.Errorf("%s, kind %d: not the whole of %s", brief(p), kind, brief(s))
		}
	}
}

// notWhole: these are not.
func notWhole(t *testing.T, p string, kind int, texts ...string) {
	t.Helper()
	r := must(t, p, kind)
	for _, s := range texts {
		if r.Whole(s) {
			t.Errorf("%s, kind %d: the whole of %s", brief(p), kind, brief(s))
		}
	}
}

// only: of some texts just these are matched from end to end.
func only(t *testing.T, p string, kind int, texts []string, want ...string) {
	t.Helper()
	r := must(t, p, kind)
	var got []string
	for _, s := range texts {
		if r.Whole(s) {
			got = append(got, s)
		}
	}
	is(t, fmt.Sprintf("%s, kind %d", brief(p), kind), fmt.Sprintf("%q", got), fmt.Sprintf("%q", want))
}

// each: every byte, as a text of its own.
func each() []string {
	var l []string
	for c := range 256 {
		l = append(l, string([]byte{byte(c)}))
	}
	return l
}

// tells: just these bytes, rising, are matched by a pattern.
func tells(t *testing.T, p string, kind int, want string) {
	t.Helper()
	r := must(t, p, kind)
	got := ""
	for _, c := range each() {
		if r.Whole(c) {
			got += c
		}
	}
	is(t, fmt.Sprintf("the bytes of %s, kind %d", brief(p), kind), got, want)
}

// without: all bytes but these.
func without(some string) string {
	s := ""
	for _, c := range each() {
		if !strings.Contains(some, c) {
			s += c
		}
	}
	return s
}

// span: the bytes from lo to hi.
func span(lo, hi int) string { return strings.Join(each()[lo:hi+1], "") }

// all: the matches that All tells.
func all(r *regex.Regex, s string) string {
	out := ""
	for m := range r.All(s) {
		out += fmt.Sprint(m)
	}
	return out
}

// tellsAll: the wholes of the matches in a text, two numbers each.
func tellsAll(t *testing.T, p string, kind int, s string, want ...int) {
	t.Helper()
	got, should := "", ""
	for m := range must(t, p, kind).All(s) {
		got += fmt.Sprint(m[0])
	}
	for i := 0; i+1 < len(want); i += 2 {
		should += fmt.Sprint(api.Span{Lo: want[i], Hi: want[i+1]})
	}
	is(t, fmt.Sprintf("All of %s, kind %d, in %s", brief(p), kind, brief(s)), got, should)
}

// replaced: what Replace answered.
func replaced(s string, n int, e api.Errno) string { return fmt.Sprintf("%q %d %d", s, n, int(e)) }

// replaces: a text, and how many were replaced in it.
func replaces(t *testing.T, p string, kind int, s, by string, n int, all bool, want string, count int) {
	t.Helper()
	got := replaced(must(t, p, kind).Replace(s, by, n, all))
	is(t, fmt.Sprintf("%s, kind %d: Replace(%s, %q, %d, %v)", brief(p), kind, brief(s), by, n, all), got, replaced(want, count, api.OK))
}

// everyText: the texts of at most n of these letters, the empty one first.
func everyText(letters string, n int) []string {
	var words []string
	for _, c := range []byte(letters) {
		words = append(words, string([]byte{c}))
	}
	return everyList(words, n)
}

// everyList: the texts of at most n of these words, put together.
func everyList(words []string, n int) []string {
	all, last := []string{""}, []string{""}
	for range n {
		var next []string
		for _, s := range last {
			for _, w := range words {
				next = append(next, s+w)
			}
		}
		all, last = append(all, next...), next
	}
	return all
}
