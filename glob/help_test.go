package glob_test

import (
	"fmt"
	"testing"

	"tinsel/api"
	"tinsel/glob"
)

// The calls, with the signatures that the chapter lists.
var (
	_ func(string, string, int) bool                   = glob.Match
	_ func(string) bool                                = glob.Magic
	_ func(string) string                              = glob.Quote
	_ func(string, int, ...string) []string            = glob.Filter
	_ func(string) ([]byte, api.Errno)                 = glob.Class
	_ func(string, int) ([]byte, api.Errno)            = glob.Set
	_ func([]byte) []byte                              = glob.Complement
	_ func([]byte, []byte, []byte) ([]byte, api.Errno) = glob.Translate
	_ func([]byte, []byte) []byte                      = glob.Delete
	_ func([]byte, []byte) []byte                      = glob.Squeeze
)

const (
	path   = api.GlobPath
	period = api.GlobPeriod
	plain  = api.GlobPlain
	fold   = api.GlobFold
)

// brief: a text quoted, or how it begins and how long it is.
func brief(s string) string {
	if len(s) <= 300 {
		return fmt.Sprintf("%q", s)
	}
	return fmt.Sprintf("%q.. (%d bytes)", s[:300], len(s))
}

// is: a text that a call answered.
func is(t *testing.T, what, got, want string) {
	t.Helper()
	if got != want {
		t.Errorf("%s: %s, want %s", brief(what), brief(got), brief(want))
	}
}

// says: whether a pattern matches each of some texts; by Filter, too.
func says(t *testing.T, want bool, pattern string, flags int, texts ...string) {
	t.Helper()
	for _, s := range texts {
		if glob.Match(pattern, s, flags) != want {
			t.Errorf("Match(%s, %s, %d): not %v", brief(pattern), brief(s), flags, want)
		}
		if got := glob.Filter(pattern, flags, s); (len(got) == 1 && got[0] == s) != want {
			t.Errorf("Filter(%s, %d, %s): %q", brief(pattern), flags, brief(s), got)
		}
	}
}

// matches: a pattern matches all of these.
func matches(t *testing.T, pattern string, flags int, texts ...string) {
	t.Helper()
	says(t, true, pattern, flags, texts...)
}

// misses: a pattern matches none of these.
func misses(t *testing.T, pattern string, flags int, texts ...string) {
	t.Helper()
	says(t, false, pattern, flags, texts...)
}

// each: every byte, as a text of its own.
func each() []string {
	var l []string
	for c := range 256 {
		l = append(l, string([]byte{byte(c)}))
	}
	return l
}

// bytesOf: the bytes that a pattern matches, each as a whole text.
func bytesOf(pattern string, flags int) string {
	s := ""
	for _, c := range each() {
		if glob.Match(pattern, c, flags) {
			s += c
		}
	}
	return s
}

// tells: just these bytes, rising, are matched by a pattern.
func tells(t *testing.T, pattern string, flags int, want string) {
	t.Helper()
	is(t, fmt.Sprintf("the bytes of %q, %d", pattern, flags), bytesOf(pattern, flags), want)
}

// without: all bytes but these.
func without(some string) string { return string(glob.Complement([]byte(some))) }

// span: the bytes from lo to hi.
func span(lo, hi int) string {
	var b []byte
	for c := lo; c <= hi; c++ {
		b = append(b, byte(c))
	}
	return string(b)
}

// answer: what a call of sets answered; nil and empty lists look the same.
func answer(b []byte, e api.Errno) string { return fmt.Sprintf("%q %d", string(b), int(e)) }

// sets: Set answers these bytes.
func sets(t *testing.T, s string, size int, want string) {
	t.Helper()
	is(t, fmt.Sprintf("Set(%s, %d)", brief(s), size), answer(glob.Set(s, size)), answer([]byte(want), api.OK))
}

// noSet: Set answers this error of each text, and beside it nothing.
func noSet(t *testing.T, want api.Errno, size int, texts ...string) {
	t.Helper()
	for _, s := range texts {
		is(t, fmt.Sprintf("Set(%s, %d)", brief(s), size), answer(glob.Set(s, size)), answer(nil, want))
	}
}

// everyText: the texts of at most n of these letters, the empty one first.
func everyText(letters string, n int) []string {
	all, last := []string{""}, []string{""}
	for range n {
		var next []string
		for _, s := range last {
			for _, c := range []byte(letters) {
				next = append(next, s+string([]byte{c}))
			}
		}
		all, last = append(all, next...), next
	}
	return all
}

// everyList: the texts of at most n of these words, put together.
func everyList(words []string, n int) []string {
	all, last := []string{""}, []string{""}
	for range n {
		var next []string
		for _, s := range last {
			for _, w := range words {
				next = append(next, s+w)
			}
		}
		all, last = append(all, next...), next
	}
	return all
}
