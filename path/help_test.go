package path_test

import (
	"fmt"
	"iter"
	"slices"
	"strings"
	"testing"

	"tinsel/api"
	"tinsel/path"
)

// The calls, with the signatures that the chapter lists.
var (
	_ func(string) (api.Path, api.Errno)  = path.Split
	_ func(api.Path) string               = path.String
	_ func(string) string                 = path.Clean
	_ func(...string) string              = path.Join
	_ func(string, string) string         = path.Base
	_ func(string) string                 = path.Dir
	_ func(string, string) (string, bool) = path.Rel
	_ func(string, string) bool           = path.Within
	_ func(string) iter.Seq[string]       = path.Prefixes
)

// told: parts, so that each one is to be seen.
func told(p api.Path) string { return fmt.Sprintf("%v %q %v", p.Abs, p.Names, p.Slash) }

// brief: a text quoted, or how it begins and how long it is.
func brief(s string) string {
	if len(s) <= 300 {
		return fmt.Sprintf("%q", s)
	}
	return fmt.Sprintf("%q.. (%d bytes)", s[:300], len(s))
}

// splits: Split answers these parts.
func splits(t *testing.T, s string, want api.Path) {
	t.Helper()
	if p, e := path.Split(s); told(p) != told(want) || e != api.OK {
		t.Errorf("Split(%s): %s, %v, want %s", brief(s), brief(told(p)), e, brief(told(want)))
	}
}

// refuses: Split answers this error, and beside it nothing.
func refuses(t *testing.T, what, s string, want api.Errno) {
	t.Helper()
	if p, e := path.Split(s); told(p) != told(api.Path{}) || e != want {
		t.Errorf("%s: Split(%s): %s, %v, want nothing, %v", what, brief(s), brief(told(p)), e, want)
	}
}

// is: a text that a call answered.
func is(t *testing.T, what, got, want string) {
	t.Helper()
	if got != want {
		t.Errorf("%s: %s, want %s", brief(what), brief(got), brief(want))
	}
}

// rel: Rel answers this path.
func rel(t *testing.T, base, s, want string) {
	t.Helper()
	if got, ok := path.Rel(base, s); got != want || !ok {
		t.Errorf("Rel(%s, %s): %s, %v, want %s", brief(base), brief(s), brief(got), ok, brief(want))
	}
}

// noRel: there is none, and beside that nothing.
func noRel(t *testing.T, base, s string) {
	t.Helper()
	if got, ok := path.Rel(base, s); got != "" || ok {
		t.Errorf("Rel(%s, %s): %s, %v, want none", brief(base), brief(s), brief(got), ok)
	}
}

// within: Within answers this.
func within(t *testing.T, dir, s string, want bool) {
	t.Helper()
	if got := path.Within(dir, s); got != want {
		t.Errorf("Within(%s, %s): %v, want %v", brief(dir), brief(s), got, want)
	}
}

// prefixes: all that Prefixes tells.
func prefixes(t *testing.T, s string, want ...string) {
	t.Helper()
	if got := slices.Collect(path.Prefixes(s)); !slices.Equal(got, want) {
		t.Errorf("Prefixes(%q): %q, want %q", s, got, want)
	}
}

// everyText: the texts of at most n of these letters, the empty one first.
func everyText(letters string, n int) []string {
	all, last := []string{""}, []string{""}
	for range n {
		var next []string
		for _, s := range last {
			for _, c := range []byte(letters) {
				next = append(next, s+string([]byte{c}))
			}
		}
		all, last = append(all, next...), next
	}
	return all
}

// long: a name of n bytes.
func long(n int) string { return strings.Repeat("n", n) }

// longPath: a path of n bytes, of names of one byte.
func longPath(n int) string { return strings.Repeat("a/", n/2) + strings.Repeat("b", n%2) }
