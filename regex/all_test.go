package regex_test

import (
	"math"
	"strings"
	"testing"

	"tinsel/api"
	"tinsel/regex"
)

// P13.2: matches that begin where the one ahead ended, or later; no empty one right there.
func TestAll(t *testing.T) {
	tellsAll(t, "a", basic, "")
	tellsAll(t, "a", basic, "bbb")
	tellsAll(t, "a", basic, "a", 0, 1)
	tellsAll(t, "a", basic, "aaa", 0, 1, 1, 2, 2, 3)
	tellsAll(t, "aa", basic, "aaaaa", 0, 2, 2, 4)
	tellsAll(t, "aba", basic, "ababa", 0, 3)
	tellsAll(t, "a*", basic, "aaa", 0, 3)
	tellsAll(t, "a*", basic, "", 0, 0)
	tellsAll(t, "a*", basic, "b", 0, 0, 1, 1)
	tellsAll(t, "a*", basic, "ba", 0, 0, 1, 2)
	tellsAll(t, "a*", basic, "ab", 0, 1, 2, 2)
	tellsAll(t, "a*", basic, "baab", 0, 0, 1, 3, 4, 4)
	tellsAll(t, "a*", basic, "baac", 0, 0, 1, 3, 4, 4)
	tellsAll(t, "a*", basic, "aabaa", 0, 2, 3, 5)
	tellsAll(t, "a*", basic, "aabbaa", 0, 2, 3, 3, 4, 6)
	tellsAll(t, "", basic, "ab", 0, 0, 1, 1, 2, 2)
	tellsAll(t, "x*", extended, "abxc", 0, 0, 1, 1, 2, 3, 4, 4)
	tellsAll(t, "^", extended, "aa", 0, 0)
	tellsAll(t, "$", extended, "aa", 2, 2)
	tellsAll(t, "^a", extended, "aaa", 0, 1)
	tellsAll(t, "a$", extended, "aaa", 2, 3)
	tellsAll(t, "a|$", extended, "aa", 0, 1, 1, 2)
	tellsAll(t, "a|$", extended, "ab", 0, 1, 2, 2)
	tellsAll(t, "^|b", extended, "ab", 0, 0, 1, 2)
	tellsAll(t, "^|a", extended, "aa", 0, 1, 1, 2)
	tellsAll(t, "(^a)|b", extended, "aab", 0, 1, 2, 3)
	tellsAll(t, "(|b)", extended, "abba", 0, 0, 1, 2, 2, 3, 4, 4)
	tellsAll(t, "b|", extended, "bab", 0, 1, 2, 3)
	tellsAll(t, "ab|b|", extended, "aabba", 0, 0, 1, 3, 3, 4, 5, 5)
	tellsAll(t, "(a|ab)(c|bcd)", extended, "acabcabcd", 0, 2, 2, 5, 5, 9)
	tellsAll(t, ".", basic, "a\nb", 0, 1, 1, 2, 2, 3)
}

// P13.2: the groups of each match are its own.
func TestAllGroups(t *testing.T) {
	is(t, "groups", all(must(t, "(a)|(b)", extended), "abc"), "[{0 1} {0 1} {-1 -1}][{1 2} {-1 -1} {1 2}]")
	is(t, "groups", all(must(t, "(a)*", extended), "baa"), "[{0 0} {-1 -1}][{1 3} {2 3}]")
	is(t, "groups", all(must(t, "\\(x\\)\\(y\\)*", basic), "xxy"), "[{0 1} {0 1} {-1 -1}][{1 3} {1 2} {2 3}]")
	is(t, "groups", all(must(t, "(a*)+", extended), "ab"), "[{0 1} {0 1}][{2 2} {2 2}]")
}

// P13.2, R3: All may be left at any time, gone over again, and nested.
func TestAllLeftAndAgain(t *testing.T) {
	r := must(t, "a(b*)", extended)
	s := "abaabbba"
	seq := r.All(s)
	var wholes []string
	for m := range seq {
		wholes = append(wholes, pairs(m[0].Lo, m[0].Hi, m[1].Lo, m[1].Hi))
	}
	is(t, "once", strings.Join(wholes, ""), all(r, s))
	for n := range len(wholes) + 2 {
		seen := 0
		for m := range seq {
			if seen == n {
				break
			}
			is(t, "left early", pairs(m[0].Lo, m[0].Hi, m[1].Lo, m[1].Hi), wholes[seen])
			seen++
		}
		if seen != min(n, len(wholes)) {
			t.Errorf("left at %d: %d", n, seen)
		}
	}
	outer := ""
	for m := range seq {
		inner := ""
		for k := range seq {
			inner += spans(k, true)
			for range r.All("aab") {
			}
		}
		is(t, "inner", inner, strings.Join(wholes, ""))
		outer += spans(m, true)
	}
	is(t, "outer", outer, strings.Join(wholes, ""))
}

// R3: what All tells is as it was when it was asked for, and is a list of its own.
func TestAllIsItsOwn(t *testing.T) {
	r := must(t, "a(b*)", extended)
	other := must(t, "x", basic)
	s := "abaabbba"
	want := all(r, s)
	changing := *r
	seq := changing.All(s)
	changing = *other
	got := ""
	for m := range seq {
		got += spans(m, true)
		m = m[:cap(m)]
		for i := range m {
			m[i] = api.Span{Lo: 77, Hi: 77}
		}
	}
	is(t, "asked for", got, want)
	var kept [][]api.Span
	for m := range r.All(s) {
		kept = append(kept, m)
	}
	got = ""
	for _, m := range kept {
		got += spans(m, true)
	}
	is(t, "kept", got, want)
	is(t, "again", all(r, s), want)
}

// P13.5: matches do not overlap, rise, and are those that Find tells.
func TestAllRises(t *testing.T) {
	for _, p := range []string{"a", "a*", "b*", "(a|ab)*", "ab|b|", "", "^", "$", "a*b", "(a|b)b*", "b?a?", "^a|b$", "(|a)(b|)"} {
		r := must(t, p, extended)
		for _, s := range everyText("abc", 5) {
			end, last := 0, -1
			for m := range r.All(s) {
				if m[0].Lo < end || m[0].Hi < m[0].Lo || m[0].Hi > len(s) || m[0].Lo == m[0].Hi && m[0].Lo == last {
					t.Fatalf("%q in %q: %v behind %d", p, s, m, last)
				}
				at := end
				if l, _ := r.Find(s, at); l[0].Lo == l[0].Hi && l[0].Lo == last {
					at++
				}
				is(t, "Find", spans(r.Find(s, at)), spans(m, true))
				end, last = m[0].Hi, m[0].Hi
			}
		}
	}
}

// P13.3: the n-th match, or all from it on.
func TestReplace(t *testing.T) {
	for n := 1; n <= 5; n++ {
		text := []byte("aaa")
		if n <= 3 {
			text[n-1] = 'x'
		}
		replaces(t, "a", basic, "aaa", "x", n, false, string(text), map[bool]int{true: 1}[n <= 3])
		rest := max(4-n, 0)
		replaces(t, "a", basic, "aaa", "x", n, true, strings.Repeat("a", 3-rest)+strings.Repeat("x", rest), rest)
	}
	for _, n := range []int{math.MaxInt, math.MaxInt - 1, 1 << 40, 100} {
		replaces(t, "a", basic, "aaa", "x", n, false, "aaa", 0)
		replaces(t, "a", basic, "aaa", "x", n, true, "aaa", 0)
	}
	replaces(t, "a", basic, "", "x", 1, true, "", 0)
	replaces(t, "a", basic, "bcd", "x", 1, true, "bcd", 0)
	replaces(t, "a", basic, "banana", "", 1, true, "bnn", 3)
	replaces(t, "a", basic, "banana", "", 2, false, "banna", 1)
	replaces(t, "an", basic, "banana", "<>", 2, true, "ban<>a", 1)
	replaces(t, "a*", basic, "baab", "-", 1, true, "-b-b-", 3)
	replaces(t, "a*", basic, "baab", "-", 2, false, "b-b", 1)
	replaces(t, "a*", basic, "baab", "-", 2, true, "b-b-", 2)
	replaces(t, "a*", basic, "", "-", 1, true, "-", 1)
	replaces(t, "", basic, "ab", "-", 1, true, "-a-b-", 3)
	replaces(t, "", basic, "ab", "-", 3, false, "ab-", 1)
	replaces(t, "^", extended, "ab", "> ", 1, true, "> ab", 1)
	replaces(t, "$", extended, "ab", "!", 1, true, "ab!", 1)
	replaces(t, ".", extended, "a\x00\xff", "[&]", 1, true, "[a][\x00][\xff]", 3)
	replaces(t, "a", extended|fold, "aAa", "b", 1, true, "bbb", 3)
}

// P13.3: what stands for what in a replacement.
func TestReplacement(t *testing.T) {
	one := func(by, want string) {
		t.Helper()
		replaces(t, "(b)(c)?(x*)(d)*", extended, "abce", by, 1, false, "a"+want+"e", 1)
	}
	one("", "")
	one("x", "x")
	one("&", "bc")
	one("&&", "bcbc")
	one("[&]", "[bc]")
	one("\\&", "&")
	one("\\\\&", "\\bc")
	one("\\\\", "\\")
	one("\\\\\\&", "\\&")
	one("\\1", "b")
	one("\\2\\1", "cb")
	one("\\3", "")
	one("\\4", "")
	one("<\\4>", "<>")
	one("\\11", "b1")
	one("\\n", "\n")
	one("\\\n", "\n")
	one("\n", "\n")
	one("\\nn", "\nn")
	one("\\\\n", "\\n")
	one("\\t\\a\\N\\(\\/", "taN(/")
	one("\\x\\\x00\\\xff", "x\x00\xff")
	one("$1*.[", "$1*.[")
	one("\x00\xff", "\x00\xff")
	one("é\\é", "éé")
	r := must(t, "a", basic)
	for _, c := range each() {
		got := replaced(r.Replace("a", "\\"+c, 1, true))
		switch {
		case "0" <= c && c <= "9":
			is(t, "\\"+c, got, replaced("", 0, api.EREGEX))
		case c == "n":
			is(t, "\\"+c, got, replaced("\n", 1, api.OK))
		default:
			is(t, "\\"+c, got, replaced(c, 1, api.OK))
		}
		if c != "\\" && c != "&" {
			is(t, c, replaced(r.Replace("a", c, 1, true)), replaced(c, 1, api.OK))
		}
	}
	replaces(t, "\\(a\\)\\(b\\)*", basic|fold, "xAbB", "<\\2&\\1>", 1, false, "x<BAbBA>", 1)
	nine := strings.Repeat("(.)", 12)
	replaces(t, nine, extended, "abcdefghijkl", "\\9\\8\\7\\6\\5\\4\\3\\2\\1", 1, true, "ihgfedcba", 1)
	replaces(t, nine, extended, "abcdefghijkl", "\\10\\12", 1, true, "a0a2", 1)
	replaces(t, "(a)|(b)", extended, "ab", "<\\1|\\2>", 1, true, "<a|><|b>", 2)
	replaces(t, "(a*)b", extended, "baab", "\\1-", 1, true, "-aa-", 2)
}

// P13.3: the errors, in their order, whether there is a match or not.
func TestReplaceErrors(t *testing.T) {
	var none *regex.Regex
	wrong := []string{"\\", "a\\", "\\\\\\", "&\\", "\\0", "a\\0b", "\\00", "\\3", "\\9", "\\1\\3", "\\3\\1", "\\n\\4", "\\0\\", "\\5\\"}
	for groups, p := range []string{"a", "(a)", "(a)(b)?"} {
		r := must(t, p, extended)
		for _, s := range []string{"", "a", "b", "ab", "aaaa"} {
			for _, all := range []bool{false, true} {
				for _, by := range wrong {
					for _, n := range []int{1, 2, math.MaxInt} {
						is(t, p+" by "+by, replaced(r.Replace(s, by, n, all)), replaced("", 0, api.EREGEX))
					}
					for _, n := range []int{0, -1, math.MinInt} {
						is(t, p+" by "+by, replaced(r.Replace(s, by, n, all)), replaced("", 0, api.EINVAL))
						is(t, "none", replaced(none.Replace(s, by, n, all)), replaced("", 0, api.EFAULT))
						is(t, "none", replaced(new(regex.Regex).Replace(s, by, n, all)), replaced("", 0, api.EFAULT))
					}
				}
				for digit := 1; digit <= 9; digit++ {
					_, _, e := r.Replace(s, "x\\"+string([]byte{byte('0' + digit)}), 1, all)
					if want := map[bool]api.Errno{true: api.EREGEX}[digit > groups]; e != want {
						t.Errorf("%s: \\%d: %v, want %v", p, digit, e, want)
					}
				}
				for _, n := range []int{0, -1, math.MinInt} {
					is(t, "n", replaced(r.Replace(s, "x", n, all)), replaced("", 0, api.EINVAL))
				}
			}
		}
	}
}

// P13.5: Replace by & is the text, however many are replaced.
func TestReplaceByItself(t *testing.T) {
	for _, p := range []string{"a", "a*", "(a|b)*", "", "^", "$", "x", ".", "[^a]*", "(a)|b|"} {
		r := must(t, p, extended)
		for _, s := range append(everyText("abx", 4), "\x00\xff\n", "é", strings.Repeat("ab", 100)) {
			count := 0
			for range r.All(s) {
				count++
			}
			for n := 1; n <= count+2; n++ {
				is(t, p, replaced(r.Replace(s, "&", n, true)), replaced(s, max(count-n+1, 0), api.OK))
				is(t, p, replaced(r.Replace(s, "&", n, false)), replaced(s, map[bool]int{true: 1}[n <= count], api.OK))
			}
		}
	}
}

// P13.4: a backslash ahead of the bytes that have a meaning.
func TestQuote(t *testing.T) {
	for _, isExtended := range []bool{false, true} {
		special := ".[\\*^$"
		if isExtended {
			special += "()|+?{"
		}
		for _, c := range each() {
			want := c
			if strings.Contains(special, c) {
				want = "\\" + c
			}
			is(t, "Quote of "+c, regex.Quote(c, isExtended), want)
			is(t, "Quote of a "+c+" b", regex.Quote("a"+c+"b"+c, isExtended), "a"+want+"b"+want)
		}
		is(t, "Quote of nothing", regex.Quote("", isExtended), "")
	}
	is(t, "basic", regex.Quote(".[\\*^$/()|+?{}]-", false), "\\.\\[\\\\\\*\\^\\$/()|+?{}]-")
	is(t, "extended", regex.Quote(".[\\*^$/()|+?{}]-", true), "\\.\\[\\\\\\*\\^\\$/\\(\\)\\|\\+\\?\\{}]-")
	long := strings.Repeat(".", 5000)
	is(t, "long", regex.Quote(long, false), strings.Repeat("\\.", 5000))
	bad(t, basic, regex.Quote(long, false))
}

// P13.4, P13.5: what Quote tells matches the text alone, and Find tells it at 0.
func TestQuoteMatches(t *testing.T) {
	texts := everyText(".[\\*^$(){|+?}]-/a1,n", 2)
	for _, c := range each() {
		texts = append(texts, c, c+c, "a"+c, c+"a", "*"+c, "^"+c, c+"$", c+"*")
	}
	texts = append(texts, span(0, 255), "a{2}", "\\(a\\)", "[[:alpha:]]", "^*", "a|b", "(a)*", strings.Repeat("*", 2000))
	others := append(everyText("a*^$.", 2), "\x00", "\n")
	for _, kind := range kinds {
		for _, s := range texts {
			r := must(t, regex.Quote(s, kind == extended), kind)
			is(t, "Find of Quote of "+brief(s), spans(r.Find(s, 0)), pairs(0, len(s)))
			if !r.Whole(s) || r.Groups() != 0 {
				t.Errorf("Quote of %q: Whole %v, Groups %d", s, r.Whole(s), r.Groups())
			}
			for _, x := range others {
				if r.Whole(x) != (x == s) {
					t.Errorf("Quote of %q: Whole of %q", s, x)
				}
			}
		}
	}
}
