package glob_test

import (
	"fmt"
	"slices"
	"strings"
	"testing"

	"tinsel/glob"
)

// magic: Magic says so of each pattern.
func magic(t *testing.T, want bool, patterns ...string) {
	t.Helper()
	for _, p := range patterns {
		if glob.Magic(p) != want {
			t.Errorf("Magic(%s): not %v", brief(p), want)
		}
	}
}

// P12.1: a star, a question mark or a [ that no backslash stands ahead of.
func TestMagic(t *testing.T) {
	for _, c := range each() {
		m := strings.Contains("*?[", c)
		magic(t, m, c, "a"+c, c+"a", "\\a"+c, c+c, c+"\\")
		magic(t, false, "\\"+c, "a\\"+c, "\\"+c+"a", "\\\\\\"+c, "\\"+c+"\\"+c)
		magic(t, m, "\\\\"+c, "\\\\\\\\"+c, "a\\\\"+c+"b")
	}
	magic(t, false, "", "a", "\\", "\\\\", "\\\\\\", "a]", "!", "^", "-", "a.b/c", "{a,b}", "\xff", "\\*\\?\\[")
	magic(t, true, "[", "[a", "a*", "\\**", "\\*?", "*\\*", "[a]", "\\[a][b]", strings.Repeat("\\*", 1000)+"*")
	magic(t, false, strings.Repeat("\\*", 1000), strings.Repeat("\\", 1000), strings.Repeat("\\", 1001)+"*")
	magic(t, true, strings.Repeat("\\", 1000)+"*")
}

// P12.1: a backslash ahead of each magic byte and of each backslash.
func TestQuote(t *testing.T) {
	for s, want := range map[string]string{
		"": "", "a": "a", "*": "\\*", "?": "\\?", "[": "\\[", "\\": "\\\\", "]": "]", "[a]": "\\[a]", "\\*": "\\\\\\*", "**": "\\*\\*",
		"a*b?c[d\\e": "a\\*b\\?c\\[d\\\\e", "!^-.": "!^-.", "é\xff\x00": "é\xff\x00", "a b\n": "a b\n",
	} {
		is(t, "Quote("+brief(s)+")", glob.Quote(s), want)
	}
	for _, c := range each() {
		want := c
		if strings.Contains("*?[\\", c) {
			want = "\\" + c
		}
		is(t, "Quote("+brief(c)+")", glob.Quote(c), want)
	}
}

// P12.4: what is quoted matches itself alone, and has no magic.
func TestQuoted(t *testing.T) {
	texts := everyText("a*?[]\\!-", 3)
	texts = append(texts, "[[:digit:]]", "[!a-c]", "\\\\\\\\", "é\xff", strings.Repeat("*", 300))
	for i, s := range texts {
		q := glob.Quote(s)
		if glob.Magic(q) {
			t.Errorf("Quote(%q) is magic", s)
		}
		matches(t, q, 0, s)
		misses(t, q, 0, s+"a", "a"+s, s+"*", s+"\\", "\\"+s)
		if got := glob.Filter(q, 0, texts...); len(got) != 1 || got[0] != s {
			t.Errorf("Quote(%q) matches %q", s, got)
		}
		if i%7 == 0 {
			misses(t, q, plain, strings.Repeat("x", len(s)+1))
		}
	}
	for _, c := range each() {
		tells(t, glob.Quote(c), 0, c)
	}
}

// P12.5: a pattern without magic matches what it says alone.
func TestWithoutMagic(t *testing.T) {
	texts := everyText("ab\\]", 4)
	for _, p := range everyText("ab\\]-", 4) {
		if glob.Magic(p) {
			t.Fatalf("Magic(%q)", p)
		}
		said := ""
		for i := 0; i < len(p); i++ {
			if p[i] == '\\' && i+1 < len(p) {
				i++
			}
			said += p[i : i+1]
		}
		matches(t, p, 0, said)
		if got := glob.Filter(p, 0, texts...); len(got) > 1 || len(got) == 1 && got[0] != said {
			t.Errorf("%q matches %q", p, got)
		}
	}
}

// P12.5: a star ahead of a pattern matches just what ends with something that the pattern matches.
func TestStarAhead(t *testing.T) {
	texts := everyText("ab[]", 3)
	for _, p := range everyText("a?*[]!", 4) {
		for _, s := range texts {
			someEnd := false
			for i := range len(s) + 1 {
				someEnd = someEnd || glob.Match(p, s[i:], 0)
			}
			if glob.Match("*"+p, s, 0) != someEnd {
				t.Errorf("a star ahead of %q: %q", p, s)
			}
		}
	}
}

// P12.1: the names that match, in their order.
func TestFilter(t *testing.T) {
	filters := func(pattern string, flags int, want []string, names ...string) {
		t.Helper()
		got := glob.Filter(pattern, flags, names...)
		is(t, fmt.Sprintf("Filter(%q, %d, %q)", pattern, flags, names), fmt.Sprintf("%q", got), fmt.Sprintf("%q", want))
	}
	filters("*", 0, nil)
	filters("", 0, nil)
	filters("*", 0, nil, []string{}...)
	filters("*", 0, []string{"b", "a", "", "b"}, "b", "a", "", "b")
	filters("x", 0, nil, "b", "a", "")
	filters("*.c", 0, []string{"z.c", "a.c", ".c"}, "z.c", "b", "a.c", "c", ".c", "a.cc")
	filters("*.c", period, []string{"z.c", "a.c", ".c"}, "z.c", "..c", "a.c", ".c")
	filters("*", period, []string{"a"}, ".", "..", "a", ".b")
	filters("*", path, []string{"a", ".b"}, "a/b", "a", "/", ".b")
	filters("a", fold, []string{"a", "A", "a"}, "a", "A", "b", "a")
	filters("\\*", 0, []string{"*"}, "*", "\\", "\\a")
	filters("\\*", plain, []string{"\\", "\\a"}, "*", "\\", "\\a")
	filters("", 0, []string{"", ""}, "", "a", "")
	filters("[", 0, []string{"["}, "[", "a", "[]")
	filters("?", -1, []string{"a"}, ".", "/", "a", "")
}

// P12.1: Filter tells of each name what Match says of it.
func TestFilterIsMatch(t *testing.T) {
	names := everyText("aB./\\", 3)
	for _, p := range []string{"*", "?", "*a", "[!a]*", "*/*", ".*", "\\a", "\\", "[", "[b-c]?", "*[.]*", "a/\\.", "[\\]"} {
		for flags := range 16 {
			want := slices.DeleteFunc(slices.Clone(names), func(s string) bool { return !glob.Match(p, s, flags) })
			if got := glob.Filter(p, flags, names...); !slices.Equal(got, want) {
				t.Errorf("Filter(%q, %d): %q, want %q", p, flags, got, want)
			}
		}
	}
}
