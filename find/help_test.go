package find_test

import (
	"fmt"
	"strings"
	"testing"

	"tinsel/api"
	"tinsel/find"
)

// The calls, with the signatures that the chapter lists.
var (
	_ func([]string) ([]string, *find.Expr, api.Errno)    = find.Parse
	_ func(*find.Expr) string                             = (*find.Expr).String
	_ func(*find.Expr) (int, int, bool)                   = (*find.Expr).Depths
	_ func(*find.Expr) []string                           = (*find.Expr).Newer
	_ func(*find.Expr, []int64)                           = (*find.Expr).Set
	_ func(*find.Expr, api.Visit, int64, []int) api.Found = (*find.Expr).Try
	_ func(api.Visit) string                              = find.Glance
)

// agree: is it what a call should tell? Long texts are told by their ends.
func agree(t *testing.T, of, got, want string) {
	t.Helper()
	if got != want {
		t.Errorf("%s: %s, want %s", short(of), short(got), short(want))
	}
}

func short(s string) string {
	if len(s) <= 500 {
		return s
	}
	return fmt.Sprint(s[:200], " .. ", s[len(s)-200:], " (", len(s), " bytes)")
}

// split: a list's words, parted by single spaces; two of them stand around an empty one.
func split(s string) []string {
	if s == "" {
		return nil
	}
	return strings.Split(s, " ")
}

// parsed: an expression that must be one.
func parsed(t *testing.T, args ...string) *find.Expr {
	t.Helper()
	_, x, e := find.Parse(args)
	if e != api.OK || x == nil {
		t.Fatalf("%s: %v, %d", short(fmt.Sprintf("%q", args)), x != nil, int(e))
	}
	return x
}

// of: likewise, its words in one text.
func of(t *testing.T, args string) *find.Expr {
	t.Helper()
	return parsed(t, split(args)...)
}

// refuse: none of these is an expression, and nothing stands beside the error.
func refuse(t *testing.T, lists ...[]string) {
	t.Helper()
	for _, l := range lists {
		if roots, x, e := find.Parse(l); roots != nil || x != nil || e != api.EUSAGE {
			t.Errorf("%s: %q, %v, %d", short(fmt.Sprintf("%q", l)), roots, x, int(e))
		}
	}
}

// refuseAll: likewise, each one's words in one text.
func refuseAll(t *testing.T, lists ...string) {
	t.Helper()
	for _, s := range lists {
		refuse(t, split(s))
	}
}

// says: what is found, in a line: the value, and what is not zero.
func says(f api.Found) string {
	s := fmt.Sprint(f.True)
	if len(f.Out) > 0 {
		s += fmt.Sprintf(" out %q", f.Out)
	}
	for _, r := range f.Run {
		s += fmt.Sprintf(" run %q", r)
	}
	for i, is := range []bool{f.Prune, f.Quit, f.Gone} {
		if is {
			s += " " + split("prune quit gone")[i]
		}
	}
	return s
}

// file: a visit of a regular file.
func file(path string) api.Visit {
	return api.Visit{Kind: api.VisitFile, Path: path, Stat: api.Stat{Ino: 5, Links: 1, Mode: api.TypeReg | 0o644}}
}

// with: the same visit with another Stat.
func with(s api.Stat) api.Visit {
	v := file("/d/f")
	v.Stat = s
	return v
}

// found: what an expression, in one text, says of a visit, at time 0.
func found(t *testing.T, args string, v api.Visit, statuses ...int) string {
	t.Helper()
	return says(of(t, args).Try(v, 0, statuses))
}

// finds: what each of these expressions says of a file /d/f.
func finds(t *testing.T, pairs ...[2]string) {
	t.Helper()
	for _, p := range pairs {
		agree(t, p[0], found(t, p[0], file("/d/f")), p[1])
	}
}

// holds: is each of these tests, in one text, true of a visit at a time?
func holds(t *testing.T, want bool, v api.Visit, now int64, tests ...string) {
	t.Helper()
	for _, s := range tests {
		if got := of(t, s).Try(v, now, nil).True; got != want {
			t.Errorf("%s of %+v at %d: %v", s, v, now, got)
		}
	}
}

// often: a text so many times, with spaces between.
func often(n int, s string) string { return strings.TrimSuffix(strings.Repeat(s+" ", n), " ") }
