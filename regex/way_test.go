package regex_test

import (
	"strings"
	"testing"
)

// P13.1: the leftmost match, whatever is longer further on; of those that begin there the longest one, whatever branch comes first.
func TestLeftmostLongest(t *testing.T) {
	finds(t, "b|abc", extended, "xabc", 1, 4)
	finds(t, "a|bcd", extended, "xabcd", 1, 2)
	finds(t, "bcd|a", extended, "xabcd", 1, 2)
	finds(t, "abcd|bc", extended, "xabcd", 1, 5)
	finds(t, "abcx|bc", extended, "xabcd", 2, 4)
	finds(t, "bc|abcx|d", extended, "xabcd", 2, 4)
	finds(t, "abcde|bcd|cde", extended, "abcdf", 1, 4)
	finds(t, "a|ab", extended, "ab", 0, 2)
	finds(t, "ab|a", extended, "ab", 0, 2)
	finds(t, "a|ab|abc|abcd", extended, "abcx", 0, 3)
	finds(t, "(a|ab)(c|bcd)", extended, "abcd", 0, 4, 0, 1, 1, 4)
	finds(t, "(a|ab)(c|bcd)(d*)", extended, "abcd", 0, 4, 0, 1, 1, 4, 4, 4)
	finds(t, "(ab|a)(bcd|c)(d*)", extended, "abcd", 0, 4, 0, 2, 2, 3, 3, 4)
	finds(t, "|a", extended, "ba", 0, 0)
	finds(t, "a*", basic, "baa", 0, 0)
	finds(t, "a*", basic, "aab", 0, 2)
	finds(t, "aa*", basic, "baab", 1, 3)
	finds(t, "a*b", basic, "aacaab", 3, 6)
	finds(t, "(a|b)c|a(b|c)", extended, "ac", 0, 2, 0, 1, -1, -1)
	finds(t, "(a|b)c|a(b|c)", extended, "ab", 0, 2, -1, -1, 1, 2)
	finds(t, ".*a|b", extended, "bcaca", 0, 5)
	finds(t, "xyz|x|y", extended, "xyxyz", 0, 1)
	finds(t, "foo|foobar|bar", extended, "a foobar", 2, 8)
}

// P13.1: of the ways to the longest match the one that takes the earlier branch where they part.
func TestEarlierBranch(t *testing.T) {
	finds(t, "(a)|(a)", extended, "a", 0, 1, 0, 1, -1, -1)
	finds(t, "(a)|a", extended, "a", 0, 1, 0, 1)
	finds(t, "a|(a)", extended, "a", 0, 1, -1, -1)
	finds(t, "(.)|(a)|([a-z])", extended, "a", 0, 1, 0, 1, -1, -1, -1, -1)
	finds(t, "((a)|(ab))((c)|(bc))", extended, "abc", 0, 3, 0, 1, 0, 1, -1, -1, 1, 3, -1, -1, 1, 3)
	finds(t, "((ab)|(a))((bc)|(c))", extended, "abc", 0, 3, 0, 2, 0, 2, -1, -1, 2, 3, -1, -1, 2, 3)
	finds(t, "(a|ab)(bc|c)?", extended, "abc", 0, 3, 0, 1, 1, 3)
	finds(t, "(ab|a)(bc|c)?", extended, "abc", 0, 3, 0, 2, 2, 3)
	finds(t, "(|a)(a|)", extended, "a", 0, 1, 0, 0, 0, 1)
	finds(t, "(a|)(a|)", extended, "a", 0, 1, 0, 1, 1, 1)
	finds(t, "(|a)(|a)", extended, "a", 0, 1, 0, 0, 0, 1)
	finds(t, "(|a|b)(b|)", extended, "b", 0, 1, 0, 0, 0, 1)
	finds(t, "(b|a)*(a|b)", extended, "ab", 0, 2, 0, 1, 1, 2)
	finds(t, "(()|.)(b)", extended, "ab", 0, 2, 0, 1, -1, -1, 1, 2)
}

// P13.1: and the one that does one more round where they part.
func TestOneMoreRound(t *testing.T) {
	finds(t, "(a*)(a*)", extended, "aa", 0, 2, 0, 2, 2, 2)
	finds(t, "(a?)(a?)", extended, "a", 0, 1, 0, 1, 1, 1)
	finds(t, "(a*)(ab)*(b*)", extended, "abb", 0, 3, 0, 1, -1, -1, 1, 3)
	finds(t, "(a*)(ab)*(b)*", extended, "aab", 0, 3, 0, 2, -1, -1, 2, 3)
	finds(t, "(a+)(a+)", extended, "aaa", 0, 3, 0, 2, 2, 3)
	finds(t, "(a{1,2})(a{1,2})", extended, "aaa", 0, 3, 0, 2, 2, 3)
	finds(t, "(a{1,2})(a{2})", extended, "aaa", 0, 3, 0, 1, 1, 3)
	finds(t, "(a{0,1})*", extended, "aaa", 0, 3, 2, 3)
	finds(t, "(.*)(.*)(.*)", extended, "abc", 0, 3, 0, 3, 3, 3, 3, 3)
	finds(t, "(.*)(b)(.*)", extended, "abab", 0, 4, 0, 3, 3, 4, 4, 4)
	finds(t, "(a|ab)*(b?)", extended, "ab", 0, 2, 0, 1, 1, 2)
	finds(t, "(ab|a)*(b?)", extended, "ab", 0, 2, 0, 2, 2, 2)
	finds(t, "(a|ab|c|bcd)*", extended, "abcd", 0, 4, 1, 4)
	finds(t, "(a|ab|c|bcd)*(d*)", extended, "abcd", 0, 4, 1, 4, 4, 4)
	finds(t, "(ab|a|c|bcd)*(d*)", extended, "abcd", 0, 4, 2, 3, 3, 4)
	finds(t, "\\(a*\\)*\\(ab\\)*", basic, "aab", 0, 3, 0, 1, 1, 3)
	finds(t, "(aa|aaa)*(a*)", extended, "aaaa", 0, 4, 2, 4, 4, 4)
	finds(t, "(aaa|aa)*(a*)", extended, "aaaa", 0, 4, 0, 3, 3, 4)
	finds(t, "(a?){2}(a?)", extended, "aa", 0, 2, 1, 2, 2, 2)
	finds(t, "((a*)b){0,2}(.*)", extended, "abbb", 0, 4, 2, 3, 2, 2, 3, 4)
}

// P13.1: a group's span is that of its last round, and groups inside begin each round without one.
func TestGroupsInRounds(t *testing.T) {
	finds(t, "(a|b)*", extended, "abab", 0, 4, 3, 4)
	finds(t, "((a)|(b))*", extended, "ab", 0, 2, 1, 2, -1, -1, 1, 2)
	finds(t, "((a)|(b))*", extended, "aba", 0, 3, 2, 3, 2, 3, -1, -1)
	finds(t, "((a)|b)*", extended, "ab", 0, 2, 1, 2, -1, -1)
	finds(t, "((a)|b)+", extended, "ab", 0, 2, 1, 2, -1, -1)
	finds(t, "((a)|b){2}", extended, "ab", 0, 2, 1, 2, -1, -1)
	finds(t, "((a)|b){1,2}", extended, "ab", 0, 2, 1, 2, -1, -1)
	finds(t, "((a)|b){2,}", extended, "abb", 0, 3, 2, 3, -1, -1)
	finds(t, "((a)?b)*", extended, "abb", 0, 3, 2, 3, -1, -1)
	finds(t, "(x(a)*)*", extended, "xaax", 0, 4, 3, 4, -1, -1)
	finds(t, "(((a)|b)|c)*", extended, "abc", 0, 3, 2, 3, -1, -1, -1, -1)
	finds(t, "(a)*b(c)*", extended, "aab", 0, 3, 1, 2, -1, -1)
	finds(t, "((a)(b)?)*", extended, "aba", 0, 3, 2, 3, 2, 3, -1, -1)
	finds(t, "(a)(b)*((c)|d)*", extended, "abcd", 0, 4, 0, 1, 1, 2, 3, 4, -1, -1)
	finds(t, "\\(\\(a\\)*b\\)*", basic, "abb", 0, 3, 2, 3, -1, -1)
	finds(t, "((a)*){2}", extended, "aa", 0, 2, 2, 2, -1, -1)
	finds(t, "((a)*)+", extended, "aa", 0, 2, 0, 2, 1, 2)
	finds(t, "(a*){2}", extended, "aa", 0, 2, 2, 2)
	finds(t, "(a){2}", extended, "aaa", 0, 2, 1, 2)
	finds(t, "(a){0}", extended, "a", 0, 0, -1, -1)
	finds(t, "((a){0}b)*", extended, "bb", 0, 2, 1, 2, -1, -1)
	finds(t, "(a(b(c)?)?)*", extended, "abcaba", 0, 6, 5, 6, -1, -1, -1, -1)
	finds(t, "(a(b(c)?)?)*", extended, "abcab", 0, 5, 3, 5, 4, 5, -1, -1)
}

// P13.1: rounds that take nothing: none beyond the least number, but below it they are.
func TestEmptyRounds(t *testing.T) {
	finds(t, "(a*)*", extended, "b", 0, 0, -1, -1)
	finds(t, "(a*)*", extended, "aab", 0, 2, 0, 2)
	finds(t, "(a*)+", extended, "b", 0, 0, 0, 0)
	finds(t, "(a*)+", extended, "aab", 0, 2, 0, 2)
	finds(t, "(a*)?", extended, "b", 0, 0, -1, -1)
	finds(t, "(a*)?", extended, "aab", 0, 2, 0, 2)
	finds(t, "(a*){0,}", extended, "b", 0, 0, -1, -1)
	finds(t, "(a*){1,}", extended, "b", 0, 0, 0, 0)
	finds(t, "(a*){2,}", extended, "ab", 0, 1, 1, 1)
	finds(t, "(a*){3}", extended, "b", 0, 0, 0, 0)
	finds(t, "(a*){3}", extended, "aab", 0, 2, 2, 2)
	finds(t, "(a*){0,3}", extended, "aab", 0, 2, 0, 2)
	finds(t, "(a*){2,3}", extended, "aab", 0, 2, 2, 2)
	finds(t, "(a|b*){2}", extended, "ab", 0, 2, 1, 2)
	finds(t, "(a|b*){3}", extended, "ab", 0, 2, 2, 2)
	finds(t, "(a*|b)*", extended, "ab", 0, 2, 1, 2)
	finds(t, "(a*|b)*", extended, "ba", 0, 2, 1, 2)
	finds(t, "(|a)*", extended, "a", 0, 1, 0, 1)
	finds(t, "(|a)*", extended, "b", 0, 0, -1, -1)
	finds(t, "(|a)+", extended, "a", 0, 1, 0, 1)
	finds(t, "(|a)+", extended, "b", 0, 0, 0, 0)
	finds(t, "(|a){2}", extended, "a", 0, 1, 0, 1)
	finds(t, "(|a){2}", extended, "aab", 0, 2, 1, 2)
	finds(t, "(|a){3}", extended, "a", 0, 1, 0, 1)
	finds(t, "(a|){3}", extended, "a", 0, 1, 1, 1)
	finds(t, "()*", extended, "a", 0, 0, -1, -1)
	finds(t, "()+", extended, "a", 0, 0, 0, 0)
	finds(t, "()?", extended, "a", 0, 0, -1, -1)
	finds(t, "(){5}", extended, "a", 0, 0, 0, 0)
	finds(t, "a(){0,5}b", extended, "ab", 0, 2, -1, -1)
	finds(t, "(()|b)*", extended, "b", 0, 1, 0, 1, -1, -1)
	finds(t, "(()|b)+", extended, "b", 0, 1, 0, 1, -1, -1)
	finds(t, "(()|b)+", extended, "a", 0, 0, 0, 0, 0, 0)
	finds(t, "((a*)*)*", extended, "b", 0, 0, -1, -1, -1, -1)
	finds(t, "((a*)*)+", extended, "b", 0, 0, 0, 0, -1, -1)
	finds(t, "((a*)+)*", extended, "b", 0, 0, -1, -1, -1, -1)
	finds(t, "((a*)+)+", extended, "b", 0, 0, 0, 0, 0, 0)
	finds(t, "((a*)+b)*", extended, "abb", 0, 3, 2, 3, 2, 2)
	finds(t, "(($|a)*b)*", extended, "ab", 0, 2, 0, 2, 0, 1)
	finds(t, "(^|a)*", extended, "aa", 0, 2, 1, 2)
	finds(t, "(^)*", extended, "a", 0, 0, -1, -1)
	finds(t, "(^)+", extended, "a", 0, 0, 0, 0)
	finds(t, "(^a*){2}b", extended, "ab", 0, 2, 0, 1)
	finds(t, "\\(a*\\)*", basic, "b", 0, 0, -1, -1)
	finds(t, "\\(a*\\)\\{1,\\}", basic, "b", 0, 0, 0, 0)
	finds(t, "\\(a*\\)\\{2\\}", basic, "ab", 0, 1, 1, 1)
}

// P13.1: a round that takes nothing at first, right behind one that took nothing at last.
func TestRoundsBehindRounds(t *testing.T) {
	finds(t, "(b*|aa){2}*", extended, "bbaa", 0, 4, 2, 4)
	finds(t, "((b)*|aa){2}*", extended, "bbaa", 0, 4, 2, 4, -1, -1)
	finds(t, "((b*)|(aa)){2}*", extended, "bbaa", 0, 4, 2, 4, -1, -1, 2, 4)
	finds(t, "((b*)(b*|aa))*", extended, "bbaa", 0, 4, 2, 4, 2, 2, 2, 4)
	finds(t, "((|b)(|a))*", extended, "ba", 0, 2, 1, 2, 1, 1, 1, 2)
	finds(t, "((|b)(|a))+", extended, "ba", 0, 2, 1, 2, 1, 1, 1, 2)
	finds(t, "((|.)(|a))*", extended, "aa", 0, 2, 1, 2, 1, 1, 1, 2)
	finds(t, "((|(.))(|(a)))+", extended, "a", 0, 1, 0, 1, 0, 0, -1, -1, 0, 1, 0, 1)
	finds(t, "((|(.))(|(a))){2,}", extended, "aa", 0, 2, 1, 2, 1, 1, -1, -1, 1, 2, 1, 2)
	finds(t, "((|b)(|a)){2}*x", extended, "bax", 0, 3, 1, 2, 1, 1, 1, 2)
}

// P13.1: rounds inside rounds that have not taken anything yet, and then do.
func TestRoundsInsideRounds(t *testing.T) {
	finds(t, "((|a)*b?)*", extended, "ab", 0, 2, 0, 2, 0, 1)
	finds(t, "((a?)*(b?)*)*", extended, "abab", 0, 4, 2, 4, 2, 3, 3, 4)
	finds(t, "((a?)(b?))*", extended, "abba", 0, 4, 3, 4, 3, 4, 4, 4)
	finds(t, "((a?){2}(b?){2})*", extended, "aabba", 0, 5, 4, 5, 5, 5, 5, 5)
	finds(t, "(((a*)b?)*c?)*", extended, "abacab", 0, 6, 4, 6, 4, 6, 4, 5)
	finds(t, "((()|a)*(|b)*)*c", extended, "abc", 0, 3, 0, 2, 0, 1, -1, -1, 1, 2)
	finds(t, strings.Repeat("(", 20)+"a*"+strings.Repeat(")*", 20), extended, "aa", append([]int{0, 2}, repeatPairs(0, 2, 20)...)...)
	finds(t, strings.Repeat("(", 20)+"a*"+strings.Repeat(")*", 20), extended, "b", append([]int{0, 0}, repeatPairs(-1, -1, 20)...)...)
	finds(t, strings.Repeat("(", 20)+"a*"+strings.Repeat(")+", 20), extended, "b", append([]int{0, 0}, repeatPairs(0, 0, 20)...)...)
}

// repeatPairs: two numbers, several times.
func repeatPairs(lo, hi, n int) []int {
	var l []int
	for range n {
		l = append(l, lo, hi)
	}
	return l
}

// P13.1: Find from a place on: ^ is at place 0 of the text, $ at its end, whatever from is.
func TestFrom(t *testing.T) {
	from := func(p string, kind int, s string, at int, want ...int) {
		t.Helper()
		r := must(t, p, kind)
		if len(want) == 0 {
			is(t, p, spans(r.Find(s, at)), "false 0")
			return
		}
		is(t, p, spans(r.Find(s, at)), pairs(want...))
	}
	for at, want := range []int{0, 2, 2, 4, 4} {
		from("a", basic, "abaca", at, want, want+1)
	}
	from("a", basic, "abaca", 5)
	from("a*", basic, "aab", 0, 0, 2)
	from("a*", basic, "aab", 1, 1, 2)
	from("a*", basic, "aab", 2, 2, 2)
	from("a*", basic, "aab", 3, 3, 3)
	from("a*", basic, "aab", 4)
	from("a*", basic, "aab", -1)
	from("", extended, "", 0, 0, 0)
	from("", extended, "", 1)
	from("", extended, "ab", 2, 2, 2)
	from("", extended, "ab", 3)
	for _, kind := range kinds {
		from("^a", kind, "aaa", 0, 0, 1)
		from("^a", kind, "aaa", 1)
		from("^", kind, "aaa", 0, 0, 0)
		from("^", kind, "aaa", 1)
		from("^", kind, "aaa", 3)
		from("$", kind, "aaa", 0, 3, 3)
		from("$", kind, "aaa", 3, 3, 3)
		from("$", kind, "aaa", 4)
		from("a$", kind, "aaa", 1, 2, 3)
		from("^$", kind, "", 0, 0, 0)
		from("^$", kind, "a", 1)
	}
	from("(^|a)b", extended, "bab", 0, 0, 1, 0, 0)
	from("(^|a)b", extended, "bab", 1, 1, 3, 1, 2)
	from("(^|a)b", extended, "bab", 2)
	from("(a)|(b)", extended, "ab", 1, 1, 2, -1, -1, 1, 2)
	for _, at := range oddNumbers {
		if at < 0 || at > 3 {
			from("a*", extended, "aaa", at)
		}
	}
}

// P13.1: Match: from 0 on, anywhere; Whole: from end to end, by any way.
func TestMatchAndWhole(t *testing.T) {
	r := must(t, "ab*", basic)
	for s, want := range map[string][2]bool{"": {false, false}, "a": {true, true}, "ab": {true, true}, "abb": {true, true}, "xab": {true, false}, "abx": {true, false}, "b": {false, false}, "aab": {true, false}, "aba": {true, false}} {
		if r.Match(s) != want[0] || r.Whole(s) != want[1] {
			t.Errorf("%q: %v, %v", s, r.Match(s), r.Whole(s))
		}
	}
	whole(t, "a|ab|abc", extended, "a", "ab", "abc")
	whole(t, "(a|ab)(c|bcd)", extended, "ac", "abc", "abcd", "abbcd")
	notWhole(t, "(a|ab)(c|bcd)", extended, "abcc", "", "a")
	whole(t, "(a|b)*", extended, "", "abba")
	notWhole(t, "(a|b)*", extended, "abcba", "c")
	whole(t, "^a$", extended, "a")
	whole(t, "a*$", extended, "", "aa")
	whole(t, "(^a|b)*", extended, "abb", "b")
	notWhole(t, "(^a|b)*", extended, "aa", "ba")
	notWhole(t, "a", basic, "aa", "", "ba", "ab")
	notWhole(t, "a*", basic, "b", "ab", "ba")
	whole(t, "", basic, "")
	notWhole(t, "", basic, "a")
}
