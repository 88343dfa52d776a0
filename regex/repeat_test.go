package regex_test

import (
	"fmt"
	"strings"
	"testing"
)

// counts: how many a, of none to most, a pattern matches.
func counts(t *testing.T, p string, kind, most int, want ...int) {
	t.Helper()
	r := must(t, p, kind)
	var got []int
	for n := range most + 1 {
		if r.Whole(strings.Repeat("a", n)) {
			got = append(got, n)
		}
	}
	is(t, fmt.Sprintf("%s, kind %d", brief(p), kind), fmt.Sprint(got), fmt.Sprint(append([]int(nil), want...)))
}

// upTo: the numbers from lo to hi.
func upTo(lo, hi int) []int {
	var l []int
	for n := lo; n <= hi; n++ {
		l = append(l, n)
	}
	return l
}

// bothBraces: repetitions in braces, of a basic pattern and of an extended one.
func bothBraces(t *testing.T, inside string, most int, want ...int) {
	t.Helper()
	counts(t, "a{"+inside+"}", extended, most, want...)
	counts(t, "a\\{"+inside+"\\}", basic, most, want...)
	counts(t, "(a){"+inside+"}", extended, most, want...)
	counts(t, "\\(a\\)\\{"+inside+"\\}", basic, most, want...)
}

// P13.1: how many rounds each repetition does.
func TestRepetitions(t *testing.T) {
	counts(t, "a*", basic, 5, 0, 1, 2, 3, 4, 5)
	counts(t, "a*", extended, 5, 0, 1, 2, 3, 4, 5)
	counts(t, "a+", extended, 5, 1, 2, 3, 4, 5)
	counts(t, "a?", extended, 5, 0, 1)
	bothBraces(t, "0", 3, 0)
	bothBraces(t, "1", 3, 1)
	bothBraces(t, "2", 4, 2)
	bothBraces(t, "0,", 3, 0, 1, 2, 3)
	bothBraces(t, "1,", 3, 1, 2, 3)
	bothBraces(t, "3,", 6, 3, 4, 5, 6)
	bothBraces(t, "0,0", 3, 0)
	bothBraces(t, "0,1", 3, 0, 1)
	bothBraces(t, "0,2", 4, 0, 1, 2)
	bothBraces(t, "1,1", 3, 1)
	bothBraces(t, "2,4", 6, 2, 3, 4)
	bothBraces(t, "01", 3, 1)
	bothBraces(t, "001,002", 4, 1, 2)
	bothBraces(t, "000", 3, 0)
	bothBraces(t, "010", 12, 10)
	bothBraces(t, "99", 101, 99)
	bothBraces(t, "100,101", 103, 100, 101)
	bothBraces(t, "255", 300, 255)
	bothBraces(t, "255,", 300, upTo(255, 300)...)
	bothBraces(t, "0,255", 300, upTo(0, 255)...)
	bothBraces(t, "254,255", 300, 254, 255)
	bothBraces(t, "255,255", 300, 255)
	finds(t, "a{2,3}", extended, "aaaa", 0, 3)
	finds(t, "a{2,}", extended, "baaaa", 1, 5)
	finds(t, "a{0}", extended, "a", 0, 0)
	finds(t, "(a){0}", extended, "a", 0, 0, -1, -1)
	finds(t, "(a){0}b", extended, "ab", 1, 2, -1, -1)
	finds(t, "ba{2}", extended, "baa", 0, 3)
	only(t, "(ab){2}", extended, everyText("ab", 4), "abab")
	only(t, "ab{2}", extended, everyText("ab", 4), "abb")
	only(t, "[ab]{2}", extended, everyText("ab", 3), "aa", "ab", "ba", "bb")
	only(t, "\\.{2}", extended, []string{"..", ".", "aa", "\\\\"}, "..")
}

// P13.1: braces that are not as said.
func TestWrongBraces(t *testing.T) {
	for _, inside := range []string{"", ",", ",1", "256", "999", "0256", "0001", "1000", "0,256", "256,", "256,256", "1,1000", "0,0001", "0000,", "2,1", "1,0", "255,254", "3,2", "a", "1a", "1,a", "1,2a", "a,1", "-1", "+1", " 1", "1 ", "1, 2", "1,2,3", "1,,2", "1;2", "1.", "1,2,", "\xff", "\x00", "{1}", "1}{", "٣", "1,-1"} {
		bad(t, extended, "a{"+inside+"}")
		bad(t, basic, "a\\{"+inside+"\\}")
	}
	bad(t, extended, "a{", "a{1", "a{1,", "a{1,2", "a{12345", "(a{1)}", "a{1|2}", "a{1\\}", "a{[1]}", "a{1,2)")
	bad(t, basic, "a\\{", "a\\{1", "a\\{1,", "a\\{1,2", "a\\{1}", "a\\{1,2}", "a\\{1\\", "\\(a\\{1\\)\\}", "a\\{1\\)", "a\\}", "a{1\\}")
	bad(t, extended, "{1}", "|{1}", "({1})", "a|{1}", "^{1}", "a${1}")
	good(t, extended, "a{1}{1}", "a*{1}", "a{0}*", "(){5}", "(|a){1,}")
}

// P13.1: several repetitions behind one atom: each is one of what stands ahead of it.
func TestSeveralRepetitions(t *testing.T) {
	counts(t, "a**", basic, 3, 0, 1, 2, 3)
	counts(t, "a***", extended, 3, 0, 1, 2, 3)
	counts(t, "a+*", extended, 3, 0, 1, 2, 3)
	counts(t, "a*+", extended, 3, 0, 1, 2, 3)
	counts(t, "a++", extended, 3, 1, 2, 3)
	counts(t, "a+?", extended, 3, 0, 1, 2, 3)
	counts(t, "a?+", extended, 3, 0, 1, 2, 3)
	counts(t, "a??", extended, 3, 0, 1)
	counts(t, "a?*", extended, 3, 0, 1, 2, 3)
	counts(t, "a*?", extended, 3, 0, 1, 2, 3)
	counts(t, "a{2}{3}", extended, 10, 6)
	counts(t, "a{2}*", extended, 9, 0, 2, 4, 6, 8)
	counts(t, "a*{2}", extended, 4, 0, 1, 2, 3, 4)
	counts(t, "a{2}+", extended, 9, 2, 4, 6, 8)
	counts(t, "a{2}?", extended, 9, 0, 2)
	counts(t, "a?{2}", extended, 4, 0, 1, 2)
	counts(t, "a+{2}", extended, 5, 2, 3, 4, 5)
	counts(t, "a{2,3}{2}", extended, 9, 4, 5, 6)
	counts(t, "a{2,3}{0,2}", extended, 9, 0, 2, 3, 4, 5, 6)
	counts(t, "a{3}{2,}", extended, 13, 6, 9, 12)
	counts(t, "a{0}*", extended, 3, 0)
	counts(t, "a{0}+", extended, 3, 0)
	counts(t, "a{0}{2}", extended, 3, 0)
	counts(t, "a*{0}", extended, 3, 0)
	counts(t, "a+{0}", extended, 3, 0)
	counts(t, "a{2}{0}", extended, 3, 0)
	counts(t, "a{1}{1}{1}", extended, 3, 1)
	counts(t, "a{1}+{1}", extended, 3, 1, 2, 3)
	counts(t, "a{1}?{1}", extended, 3, 0, 1)
	counts(t, "a{2}{1}{2}", extended, 6, 4)
	counts(t, "a\\{2\\}*", basic, 7, 0, 2, 4, 6)
	counts(t, "a*\\{2\\}", basic, 3, 0, 1, 2, 3)
	counts(t, "a\\{2\\}\\{2\\}", basic, 7, 4)
	for _, p := range []string{"*", "+", "?", "{1}", "{0,1}", "{0,}", "{1,}", "*?", "+*?", "?{1,}{1}"} {
		many := strings.Repeat(p, 4000/len(p))
		want := upTo(0, 40)
		switch p {
		case "+", "{1,}":
			want = upTo(1, 40)
		case "?", "{0,1}":
			want = upTo(0, 1)
		case "{1}":
			want = upTo(1, 1)
		}
		counts(t, "a"+many, extended, 40, want...)
		counts(t, "(a)"+many, extended, 40, want...)
	}
}

// P13.1: groups below several repetitions.
func TestGroupsBelowSeveral(t *testing.T) {
	for _, p := range []string{"(a)**", "(a)+*", "(a)*+", "(a)?*", "(a)*?", "(a)?+", "(a)+?", "(a){0,}{1}*"} {
		finds(t, p, extended, "aab", 0, 2, 1, 2)
		finds(t, p, extended, "b", 0, 0, -1, -1)
	}
	finds(t, "(a)??", extended, "aab", 0, 1, 0, 1)
	finds(t, "(a)??", extended, "b", 0, 0, -1, -1)
	finds(t, "(a)++", extended, "aab", 0, 2, 1, 2)
	finds(t, "(a){0}*", extended, "aab", 0, 0, -1, -1)
	finds(t, "(a)*{0}", extended, "aab", 0, 0, -1, -1)
	finds(t, "(a){1}{1}", extended, "aab", 0, 1, 0, 1)
	finds(t, "(a|b){1}*", extended, "aab", 0, 3, 2, 3)
	finds(t, "(a)*{2}", extended, "aab", 0, 2, -1, -1)
	finds(t, "(a*)*{2}", extended, "aab", 0, 2, -1, -1)
	finds(t, "(a*)+{2}", extended, "aab", 0, 2, 2, 2)
	finds(t, "(a*)++", extended, "b", 0, 0, 0, 0)
	finds(t, "(a*)+?", extended, "b", 0, 0, -1, -1)
	finds(t, "(a*)?+", extended, "b", 0, 0, -1, -1)
	finds(t, "(a*){1}+", extended, "b", 0, 0, 0, 0)
	finds(t, "(|a)+?", extended, "aa", 0, 2, 1, 2)
	finds(t, "(|a)++", extended, "b", 0, 0, 0, 0)
}

// P13.1: a size of 2000 is a pattern, one of 2001 is none.
func TestSizes(t *testing.T) {
	a := strings.Repeat
	for _, kind := range []int{basic, extended} {
		good(t, kind, a("a", 2000), a(".", 2000), a("a*", 2000), a("\\.", 2000), "[a]"+a("b", 1999), "^"+a("a", 1998)+"$")
		bad(t, kind, a("a", 2001), a(".", 2001), a("a*", 2001), a("\\.", 2001), "[a]"+a("b", 2000), "^"+a("a", 1999)+"$", a("a", 4096))
	}
	for p, size := range map[string]int{
		"":                                       0,
		"a":                                      1,
		"a|b":                                    2,
		"|":                                      0,
		"^a$":                                    3,
		"()":                                     1,
		"(a)":                                    2,
		"((a))":                                  3,
		"(a|b)":                                  3,
		"[a-z]":                                  1,
		"[[:alpha:]x-z]":                         1,
		"a*":                                     1,
		"a+":                                     1,
		"a?":                                     1,
		"a**+?":                                  1,
		"a{0}":                                   1,
		"a{1}":                                   1,
		"a{2}":                                   2,
		"a{0,}":                                  1,
		"a{1,}":                                  1,
		"a{7,}":                                  7,
		"a{0,0}":                                 1,
		"a{0,9}":                                 9,
		"a{3,9}":                                 9,
		"a{255}":                                 255,
		"a{3}{4}":                                12,
		"a{3}*{4}":                               12,
		"a{3}{0}":                                3,
		"a{3}{0}{4,}":                            12,
		"(a){3}":                                 6,
		"(a{3})":                                 4,
		"(a{3}b){2}":                             10,
		"(a{3}|b*){2,5}":                         25,
		"((a{2}){3}){4}":                         40,
		"(a|bb|ccc){4}":                          28,
		"(|){5}":                                 5,
		"(){0}":                                  1,
		"(^|$){2}":                               6,
		"a{250}{8}":                              2000,
		"(a){250}{4}":                            2000,
		"(){250}{8}":                             2000,
		"(a{0}){250}{4}":                         2000,
		"(" + a("a", 999) + "){2}":               2000,
		a("a", 1000) + "|" + a("b", 1000):        2000,
		"(" + a("|", 3000) + "){200}{10}":        2000,
		a("(", 20) + a("a", 1980) + a(")", 20):   2000,
		"(a{100}b{50}){0,10}(c{0,96}){5}d{2}{2}": 10*151 + 485 + 4,
	} {
		rest := 2000 - size
		good(t, extended, p+a("x", rest), a("x", rest)+p)
		bad(t, extended, p+a("x", rest+1), a("x", rest+1)+p, p+a("x", rest)+"()", p+a("x", rest)+"^")
	}
	bad(t, extended, "a{255}{8}", "a{255}{255}", "a{255}{255}{255}{255}{255}{255}{255}{255}{255}{255}", "(a{255}){8}", "(a){255}{4}", "a"+a("{255}", 800), "a"+a("{2}", 1000), "(a{255}{255}){0}", "a{255}{255}{0}", "a{255,}{8,}", a("a{250}", 9))
	good(t, extended, "a{200}{10}", "a{10}{200}", "a{2}{2}{2}{2}{2}{2}{2}{2}{2}{2}", "a"+a("{1}", 1000), "a"+a("{0}", 1000), "a{2}{0}{0}{1}{1}")
	bad(t, extended, "a{2}{2}{2}{2}{2}{2}{2}{2}{2}{2}{2}", "a"+a("{0}", 990)+"{2}{2}{2}{2}{2}{2}{2}{2}{2}{2}{2}")
	good(t, basic, "a\\{250\\}\\{8\\}", "\\(a\\)\\{250\\}\\{4\\}")
	bad(t, basic, "a\\{250\\}\\{8\\}b", "\\(a\\)\\{250\\}\\{4\\}b")
	for _, p := range []string{"a{250}{8}", "a{2}{2}{5}{10}{10}", "a{0,200}{10}", "a{250,}{8,}", a("a", 2000)} {
		whole(t, p, extended, a("a", 2000))
		notWhole(t, p, extended, a("a", 1999)+"b", a("a", 2000)+"b")
	}
	notWhole(t, "a{250}{8}", extended, a("a", 1999), a("a", 2001))
	notWhole(t, "a{0,200}{10}", extended, a("a", 2001))
	notWhole(t, "a{250,}{8,}", extended, a("a", 1999))
}
