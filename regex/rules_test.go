package regex_test

import (
	"fmt"
	"math"
	"slices"
	"strings"
	"sync"
	"testing"

	"tinsel/api"
	"tinsel/regex"
)

// Numbers at their ends, and in between.
var oddNumbers = []int{0, 1, 2, 3, 4, -1, -2, 255, 256, 4096, math.MaxInt, math.MaxInt - 1, math.MinInt, math.MinInt + 1, math.MaxInt32, math.MaxInt32 + 1, math.MinInt32}

// oddTexts: some of them are patterns, or replacements.
func oddTexts() []string {
	l := []string{"", "a", "*", "+", "?", "{", "}", "(", ")", "[", "]", "|", "^", "$", ".", "\\", "\\(", "\\)", "\\{", "\\}", "[]", "[]]", "[^]", "[a-", "[z-a]", "[[:", "[[:x:]]", "[[:alpha:]]", "a{1,2}", "a{2,1}", "a{", "a{256}", "a\\{1,2\\}", "(a", "a)", "(a)", "\\(a\\)", "a**", "a{255}{255}", "(a*)*", "(|a)+b?$", "^*", "&", "\\0", "\\1", "\\n", "\x00", "\xff", "é", "\ufffd", "a\nb"}
	for _, s := range []string{"(", ")", "[", "]", "*", "\\", "|", "^", "$", "{", "a{9}", "()", "[[:digit:]]", "\\(", "a*", ".?", "\xff", "&", "\\1"} {
		l = append(l, strings.Repeat(s, 30), strings.Repeat(s, 400), strings.Repeat(s, 30)+"a")
	}
	return l
}

// picture: what all calls say of a pattern, a text, a replacement and a number.
func picture(p, s, by string, n, kind int) string {
	r, e := compile(p, kind)
	l, ok := r.Find(s, n)
	b, count, e2 := r.Replace(s, by, n, kind&1 == 0)
	return fmt.Sprint(e, r == nil, r.Groups(), l, ok, r.Match(s), r.Whole(s), all(r, s), b, count, e2, regex.Quote(p, kind&1 == 0))
}

// R1, R4: no call panics, each ends, and says the same again.
func TestOddArguments(t *testing.T) {
	texts := oddTexts()
	for i, p := range texts {
		for j, s := range texts {
			if len(s) > 200 && len(p) > 200 {
				continue
			}
			n, kind := oddNumbers[(i+j)%len(oddNumbers)], (i+j/2)%4
			by := texts[(i*7+j)%len(texts)]
			by = by[:min(len(by), 100)]
			is(t, "again", picture(strings.Clone(p), strings.Clone(s), by, n, kind), picture(p, s, by, n, kind))
		}
	}
}

// R1: every byte pair and many a triple as a pattern, on odd texts.
func TestAnyBytes(t *testing.T) {
	for _, a := range each() {
		for _, b := range each() {
			for kind := range 4 {
				for _, p := range []string{a + b, "(x" + a + ")" + b, "[" + a + b + "]"} {
					if r, e := compile(p, kind); e == api.OK {
						r.Find(a+b, 0)
						r.Whole(b + a + "\x00")
					} else if e != api.EREGEX || r != nil {
						t.Errorf("%q: %v, %v", p, r, e)
					}
				}
			}
		}
	}
}

// R5: a Regex that no call made: no call panics, each answers zero values, Replace EFAULT.
func TestNoRegex(t *testing.T) {
	var none *regex.Regex
	var zero regex.Regex
	failed, _ := compile("(", extended)
	for _, r := range []*regex.Regex{none, &zero, new(regex.Regex), failed} {
		if r.Groups() != 0 || r.Match("") || r.Match("a") || r.Whole("") || r.Whole("a") {
			t.Error("it matches")
		}
		for _, s := range []string{"", "a", "abc"} {
			for _, n := range oddNumbers {
				is(t, "Find", spans(r.Find(s, n)), "false 0")
				is(t, "Replace", replaced(r.Replace(s, "x", n, true)), replaced("", 0, api.EFAULT))
				is(t, "Replace", replaced(r.Replace(s, "\\9\\", n, false)), replaced("", 0, api.EFAULT))
			}
			for range 2 {
				for m := range r.All(s) {
					t.Error("All tells", m)
				}
			}
			r.All(s)(nil)
		}
	}
}

// R2: beside an error, and beside a false, stands nothing.
func TestNothingBeside(t *testing.T) {
	for _, p := range []string{"(a", "a{3,2}", "[b-a]", "\\d", strings.Repeat("a", 5000)} {
		bad(t, extended, p)
		bad(t, extended|fold, p)
	}
	r := must(t, "(a)", extended)
	for _, x := range []struct {
		s    string
		from int
	}{{"b", 0}, {"a", 1}, {"a", 2}, {"a", -1}, {"", 0}, {"a", math.MaxInt}, {"a", math.MinInt}} {
		if l, ok := r.Find(x.s, x.from); ok || len(l) != 0 {
			t.Errorf("Find(%q, %d): %v, %v", x.s, x.from, l, ok)
		}
	}
}

// R3: what Find tells is new memory, its spare room too.
func TestFindIsNew(t *testing.T) {
	r := must(t, "(a)|(b)", extended)
	one, _ := r.Find("xab", 0)
	two, _ := r.Find("xab", 0)
	had := slices.Clone(one)
	two = two[:cap(two)]
	for i := range two {
		two[i] = api.Span{Lo: 9, Hi: 9}
	}
	is(t, "one", fmt.Sprint(one), fmt.Sprint(had))
	is(t, "again", spans(r.Find("xab", 0)), spans(had, true))
	is(t, "another", spans(r.Find("b", 0)), pairs(0, 1, -1, -1, 0, 1))
	is(t, "one", fmt.Sprint(one), fmt.Sprint(had))
}

// A Regex never changes: what it says hangs on the arguments alone, whatever was asked ahead.
func TestNeverChanges(t *testing.T) {
	patterns := []string{"(a|ab)(c|bcd)*", "(a*)*b", "((a)|b)*", "a{2,3}(b?)$", "^(|a)+"}
	texts := everyText("abc", 4)
	for _, p := range patterns {
		used := must(t, p, extended)
		for i, s := range texts {
			used.Match(texts[len(texts)-1-i])
			used.Replace(s, "&&", 1, true)
			for range used.All(s) {
				break
			}
			fresh := must(t, p, extended)
			is(t, p+" in "+s, spans(used.Find(s, 0))+all(used, s), spans(fresh.Find(s, 0))+all(fresh, s))
		}
		copied := *used
		is(t, "a copy", spans(copied.Find("abab", 0)), spans(used.Find("abab", 0)))
	}
}

// R4: the same answers, whoever else asks the same Regex at the same time.
func TestManyAtOnce(t *testing.T) {
	r := must(t, "((a|b)*c?|(bc)+)*d", extended)
	texts := everyText("abcd", 4)
	want := make([]string, len(texts))
	for i, s := range texts {
		want[i] = spans(r.Find(s, 0)) + all(r, s)
	}
	var done sync.WaitGroup
	for range 8 {
		done.Go(func() {
			for i, s := range texts {
				if got := spans(r.Find(s, 0)) + all(r, s); got != want[i] {
					t.Errorf("%q: %s, want %s", s, got, want[i])
				}
			}
		})
	}
	done.Wait()
}

// R1: patterns that have very many ways, deep ones, and long texts are gone through in a short time.
func TestGreatOnes(t *testing.T) {
	many := strings.Repeat
	a := many("a", 20000)
	misses(t, "(a*)*b", extended, a)
	misses(t, "(a|a)*b", extended, a)
	misses(t, "(a|aa)+$x", extended, a)
	misses(t, "(a*)*(a*)*(a*)*b", extended, a)
	misses(t, "\\(\\(a*\\)*\\)*b", basic, a)
	misses(t, "a{0,250}{0,7}b", extended, a[:3000])
	misses(t, ".*.*.*.*.*.*.*.*=", basic, a)
	misses(t, "(a*|b*){250}{2}x", extended, many("ab", 100))
	misses(t, "(^|^^|a){250}x", extended, a[:100])
	misses(t, "("+many("(a*|b*)", 19)+")+x", extended, many("ab", 1000))
	misses(t, "("+many("($|$$|^|^^|a)", 19)+")+x", extended, a[:100], "")
	misses(t, "(a?){250}{2}x", extended, many("a", 200))
	misses(t, many("(a?|b?){0,20}", 20)+"x", extended, many("ab", 100))
	finds(t, "(a*)*", extended, a, 0, 20000, 0, 20000)
	finds(t, "((a)|b)*", extended, a+"b", 0, 20001, 20000, 20001, -1, -1)
	finds(t, many("(", 20)+"a"+many("*)*", 20), extended, a, append([]int{0, 20000}, repeatPairs(0, 20000, 20)...)...)
	finds(t, many("a?", 1000)+many("a", 1000), extended, a[:1000], 0, 1000)
	finds(t, "(a?){255}{3}", extended, a[:500], 0, 500, 500, 500)
	finds(t, "("+many("|", 4000)+"){255}{7}", extended, "a", 0, 0, 0, 0)
	finds(t, "("+many("|", 3990)+"a){255}{3}", extended, a[:100], 0, 100, 99, 100)
	finds(t, "(a"+many("*", 4000)+"){255}{3}", extended, a[:100], 0, 100, 100, 100)
	finds(t, "(a"+many("{1}?*", 790)+"){255}{3}", extended, a[:100], 0, 100, 100, 100)
	finds(t, "a"+many("*", 4095), basic, a, 0, 20000)
	finds(t, many("(", 20)+"a*"+many(")+", 20), extended, a, append([]int{0, 20000}, repeatPairs(0, 20000, 20)...)...)
	finds(t, many("(", 20)+"a|b*"+many("){1,}", 20), extended, a, append(repeatPairs(0, 20000, 20), 19999, 20000)...)
	finds(t, "((a*)"+many("+", 2000)+many("{1}", 600)+"){255}{2}", extended, a[:100], 0, 100, 100, 100, 100, 100)
	finds(t, "((a*)"+many("+", 2000)+many("{1}", 600)+"){255,}{2,}", extended, a[:100], 0, 100, 100, 100, 100, 100)
	finds(t, "b", basic, many("a", 1<<20)+"b", 1<<20, 1<<20+1)
	whole(t, "(a|b|ab)*", extended, many("ab", 1<<16))
	count := 0
	for range must(t, "b*", basic).All(a) {
		count++
	}
	if count != len(a)+1 {
		t.Error(count)
	}
	replaces(t, "a", basic, a, "&b", 1, true, many("ab", len(a)), len(a))
}
