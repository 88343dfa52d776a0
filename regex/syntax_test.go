package regex_test

import (
	"strings"
	"testing"

	"tinsel/api"
)

// P13.1: the chapter's examples.
func TestExamples(t *testing.T) {
	finds(t, "a|ab|abc", extended, "xabcd", 1, 4)
	finds(t, "(a*)(ab)*", extended, "aab", 0, 3, 0, 1, 1, 3)
	finds(t, "(a|b)*", extended, "ab", 0, 2, 1, 2)
	finds(t, "(a*)*", extended, "b", 0, 0, -1, -1)
	only(t, "a\\{2,3\\}", basic, everyText("ab", 4), "aa", "aaa")
	only(t, "*a", basic, everyText("a*", 3), "*a")
	tells(t, "[]a-]", basic, "-]a")
	tells(t, "[]a-]", extended, "-]a")
	only(t, "a**", basic, everyText("ab", 2), "", "a", "aa")
	bad(t, extended, "[b-a]", "(", "a{3,2}", "+a", "\\d")
	tellsAll(t, "x*", basic, "abxc", 0, 0, 1, 1, 2, 3, 4, 4)
	replaces(t, "x*", extended, "abxc", "-", 1, true, "-a-b-c-", 4)
}

// P13.1: the empty pattern, empty branches and empty groups; the empty text.
func TestEmpty(t *testing.T) {
	for _, kind := range []int{basic, extended, basic | fold, extended | fold} {
		finds(t, "", kind, "", 0, 0)
		finds(t, "", kind, "abc", 0, 0)
		only(t, "", kind, everyText("a", 2), "")
		misses(t, "a", kind, "")
		misses(t, ".", kind, "")
		misses(t, "[^a]", kind, "")
		finds(t, "a*", kind, "", 0, 0)
		finds(t, "^", kind, "", 0, 0)
		finds(t, "$", kind, "", 0, 0)
		finds(t, "^$", kind, "", 0, 0)
		misses(t, "^$", kind, "a")
	}
	finds(t, "\\(\\)", basic, "a", 0, 0, 0, 0)
	finds(t, "a\\(\\)b", basic, "ab", 0, 2, 1, 1)
	finds(t, "()", extended, "", 0, 0, 0, 0)
	finds(t, "()", extended, "a", 0, 0, 0, 0)
	finds(t, "a()b", extended, "ab", 0, 2, 1, 1)
	finds(t, "(())", extended, "", 0, 0, 0, 0, 0, 0)
	finds(t, "|", extended, "a", 0, 0)
	finds(t, "|||", extended, "", 0, 0)
	finds(t, "a|", extended, "ba", 0, 0)
	only(t, "a|", extended, everyText("a", 2), "", "a")
	only(t, "|a", extended, everyText("a", 2), "", "a")
	only(t, "a||b", extended, everyText("ab", 2), "", "a", "b")
	only(t, "(|a)b", extended, everyText("ab", 2), "b", "ab")
	only(t, "(a|)b", extended, everyText("ab", 2), "b", "ab")
	finds(t, "(|)", extended, "a", 0, 0, 0, 0)
	finds(t, "(a|)", extended, "b", 0, 0, 0, 0)
	finds(t, "x(|a|)y", extended, "xy", 0, 2, 1, 1)
}

// P13.1: bytes that stand for themselves, alone and with a backslash.
func TestEachByte(t *testing.T) {
	for _, kind := range []int{basic, extended} {
		special, quoted := ".[\\^$", ".[\\*^$/"
		if kind == extended {
			special, quoted = ".[\\^$()|*+?{", ".[\\*^$/()|+?{}"
		}
		for _, c := range each() {
			if !strings.Contains(special, c) {
				tells(t, c, kind, c)
				only(t, "x"+c+"y", kind, []string{"x" + c + "y", "xy", "x", "x\x01y"}, onlyPlain(c, kind)...)
			}
			if strings.Contains(quoted, c) {
				tells(t, "\\"+c, kind, c)
				whole(t, "x\\"+c+"y", kind, "x"+c+"y")
				whole(t, "x\\"+c+"*y", kind, "x"+c+c+"y", "xy")
			} else {
				bad(t, kind, "\\"+c, "a\\"+c, "\\"+c+"a")
			}
		}
		tells(t, ".", kind, span(0, 255))
		bad(t, kind, "\\", "a\\", "\\\\\\", ".\\", "[a]\\")
	}
}

// onlyPlain: what x, a byte and y match of xCy, xy, x and x, 1, y.
func onlyPlain(c string, kind int) []string {
	if c == "*" {
		return []string{"xy"} // here it repeats
	}
	if c == "\x01" {
		return []string{"x\x01y", "x\x01y"}
	}
	return []string{"x" + c + "y"}
}

// P13.1: what is plain in one kind and has a meaning in the other.
func TestSideBySide(t *testing.T) {
	finds(t, "a+", basic, "aa+", 1, 3)
	finds(t, "a+", extended, "aa+", 0, 2)
	finds(t, "a?", basic, "aa?", 1, 3)
	finds(t, "a?", extended, "aa?", 0, 1)
	finds(t, "a|b", basic, "ba|b", 1, 4)
	finds(t, "a|b", extended, "ba|b", 0, 1)
	finds(t, "(a)", basic, "a(a)", 1, 4)
	finds(t, "(a)", extended, "(a)", 1, 2, 1, 2)
	finds(t, "\\(a\\)", basic, "(a)", 1, 2, 1, 2)
	finds(t, "\\(a\\)", extended, "a(a)", 1, 4)
	finds(t, "a{2}", basic, "aaa{2}", 2, 6)
	finds(t, "a{2}", extended, "aaa{2}", 0, 2)
	finds(t, "a\\{2\\}", basic, "aaa{2}", 0, 2)
	finds(t, "a\\{2\\}", extended, "aaa{2}", 2, 6)
	finds(t, "a^b", basic, "aba^b", 2, 5)
	misses(t, "a^b", extended, "a^b", "ab", "aba^b")
	finds(t, "a$b", basic, "aba$b", 2, 5)
	misses(t, "a$b", extended, "a$b", "ab")
	finds(t, "*", basic, "a*", 1, 2)
	bad(t, extended, "*", "*a", "(*a)", "a|*b", "^*a", "|*")
	finds(t, "+a", basic, "+a", 0, 2)
	finds(t, "?a", basic, "?a", 0, 2)
	finds(t, "{a", basic, "{a", 0, 2)
	finds(t, "{1}", basic, "{1}", 0, 3)
	finds(t, "a{x", basic, "a{x", 0, 3)
	finds(t, "|", basic, "a|", 1, 2)
	finds(t, ")(", basic, "()(", 1, 3)
	bad(t, basic, "\\+", "\\?", "\\|", "\\}", "a\\+", "a\\?", "a\\|b", "a\\}")
	bad(t, extended, "+", "?", "{", "{1}", "{1", "+a", "?a", "{a", "(+a)", "(?a)", "({1}a)", "a|+b", "a|?b", "a|{1}b", "()|*")
}

// P13.1: basic patterns: a star that has nothing to repeat is a byte, and can be repeated.
func TestStarAtTheBeginning(t *testing.T) {
	texts := everyText("*ab^", 4)
	only(t, "*", basic, texts, "*")
	only(t, "**", basic, texts, "", "*", "**", "***", "****")
	only(t, "***", basic, texts, "", "*", "**", "***", "****")
	only(t, "*a", basic, texts, "*a")
	only(t, "*a*", basic, texts, "*", "*a", "*aa", "*aaa")
	only(t, "*\\{2\\}", basic, texts, "**")
	only(t, "\\(*\\)", basic, texts, "*")
	only(t, "\\(*a\\)b", basic, texts, "*ab")
	only(t, "a\\(*b\\)", basic, texts, "a*b")
	only(t, "a\\(**b\\)", basic, texts, "ab", "a*b", "a**b")
	only(t, "\\(\\(*\\)a\\)", basic, texts, "*a")
	only(t, "a\\(b\\)*", basic, texts, "a", "ab", "abb", "abbb")
	only(t, "^*", basic, texts, "*")
	only(t, "^*a", basic, texts, "*a")
	only(t, "^**a", basic, texts, "a", "*a", "**a", "***a")
	only(t, "^*\\{2\\}a", basic, texts, "**a")
	only(t, "\\(^*a\\)", basic, texts, "*a")
	only(t, "\\(^**\\)b", basic, texts, "b", "*b", "**b", "***b")
	only(t, "a^*b", basic, texts, "ab", "a^b", "a^^b")
	only(t, "^^*b", basic, texts, "b", "^b", "^^b", "^^^b")
	only(t, "\\(a^*\\)b", basic, texts, "ab", "a^b", "a^^b")
	misses(t, "^*a", basic, "a", "b*a", "^a")
	finds(t, "\\(^*\\)", basic, "*a", 0, 1, 0, 1)
	bad(t, basic, "^\\{1\\}", "\\{1\\}", "\\(\\{1\\}\\)", "\\(^\\{1\\}\\)", "\\{", "\\(\\{", "^\\{2,3\\}a")
	good(t, basic, "*\\{1\\}", "^*\\{1\\}", "\\(\\)\\{1\\}", "\\(\\)*", "\\(^\\)*", "\\($\\)*")
}

// P13.1: basic patterns: ^ has its meaning at the beginning of a pattern or of a group alone, $ at its end.
func TestBasicEdges(t *testing.T) {
	texts := everyText("a^$", 3)
	only(t, "^a", basic, texts, "a")
	only(t, "a$", basic, texts, "a")
	only(t, "^a$", basic, texts, "a")
	only(t, "a^", basic, texts, "a^")
	only(t, "$a", basic, texts, "$a")
	only(t, "^^", basic, texts, "^")
	only(t, "$$", basic, texts, "$")
	only(t, "^^^", basic, texts, "^^")
	only(t, "^$", basic, texts, "")
	only(t, "$^", basic, texts, "$^")
	only(t, "^", basic, texts, "")
	only(t, "$", basic, texts, "")
	only(t, "a$a", basic, texts, "a$a")
	only(t, "a^a", basic, texts, "a^a")
	only(t, "a$*", basic, texts, "a", "a$", "a$$")
	only(t, "$*", basic, texts, "", "$", "$$", "$$$")
	only(t, "$\\{2\\}", basic, texts, "$$")
	only(t, "a^\\{2\\}", basic, texts, "a^^")
	only(t, "\\^a", basic, texts, "^a")
	only(t, "a\\$", basic, texts, "a$")
	only(t, "\\(^a\\)", basic, texts, "a")
	only(t, "\\(a$\\)", basic, texts, "a")
	only(t, "\\(^\\)a", basic, texts, "a")
	only(t, "a\\($\\)", basic, texts, "a")
	only(t, "\\(^$\\)", basic, texts, "")
	only(t, "\\(a^\\)", basic, texts, "a^")
	only(t, "\\($a\\)", basic, texts, "$a")
	only(t, "\\(a\\)$", basic, texts, "a")
	only(t, "\\(a\\)^", basic, texts, "a^")
	only(t, "\\(a\\)$a", basic, texts, "a$a")
	misses(t, "a\\(^a\\)", basic, "aa", "a^a", "a")
	misses(t, "\\(a$\\)a", basic, "aa", "a$a", "a")
	finds(t, "\\(^a\\)*", basic, "aa", 0, 1, 0, 1)
	finds(t, "a\\(^b\\)*", basic, "ab", 0, 1, -1, -1)
	misses(t, "^a", basic, "ba", "^a", "")
	misses(t, "a$", basic, "ab", "a$", "")
}

// P13.1: extended patterns: ^ and $ have their meaning everywhere.
func TestExtendedEdges(t *testing.T) {
	texts := everyText("a^$", 3)
	for _, p := range []string{"^a", "a$", "^a$", "^^a", "a$$", "(^a)", "(a$)", "(^)a", "a($)", "^(^a$)$", "b|^a", "a$|b", "(b|^)a"} {
		only(t, p, extended, texts, "a")
		if p != "b|^a" && p != "a$|b" {
			misses(t, p, extended, "", "^", "$a^")
		}
	}
	for _, p := range []string{"a^", "$a", "a^a", "a$a", "(a^)", "($a)", "a(^a)", "(a$)a"} {
		misses(t, p, extended, texts...)
	}
	finds(t, "$^", extended, "", 0, 0)
	misses(t, "$^", extended, "a", "$^")
	finds(t, "$", extended, "ab", 2, 2)
	finds(t, "^|a", extended, "ba", 0, 0)
	finds(t, "a|$", extended, "bb", 2, 2)
	finds(t, "(^a|b)*", extended, "aab", 0, 1, 0, 1)
	finds(t, "(^)*a", extended, "a", 0, 1, -1, -1)
	finds(t, "(^)+a", extended, "a", 0, 1, 0, 0)
	misses(t, "(^)+a", extended, "b^")
	finds(t, "(^|b)*", extended, "bb", 0, 2, 1, 2)
	bad(t, extended, "^*", "$*", "^+", "$+", "^?", "$?", "^{1}", "${1}", "a^*", "a$*b", "(^*)", "($*)", "a|^*", "^{0}", "^^*", "^{1,2}", "${0,}")
	good(t, extended, "(^)*", "($)+", "(^){2}", "(^|$)?")
}

// P13.1: what closes nothing.
func TestClosesNothing(t *testing.T) {
	for _, kind := range []int{basic, extended} {
		for _, c := range []string{"}", "]"} {
			tells(t, c, kind, c)
			whole(t, "a"+c, kind, "a"+c)
			whole(t, c+c, kind, c+c)
			whole(t, c+"*", kind, "", c, c+c)
			whole(t, "[a]"+c, kind, "a"+c)
		}
	}
	whole(t, "a}{2}", extended, "a}}")
	whole(t, "a{2}}", extended, "aa}")
	whole(t, "(})", extended, "}")
	whole(t, "a\\{2\\}}", basic, "aa}")
	whole(t, "(a))", basic, "(a))")
	bad(t, extended, ")", "a)", "()(", "(a))", ")(", "a|)", ")*", "(a)b)", "())", "(()))")
	bad(t, basic, "\\)", "a\\)", "\\(a\\)\\)", "\\)\\(", "\\(\\)\\)", "*\\)", "^\\)", "$\\)")
	bad(t, extended, "(", "(a", "((a)", "a(", "(a|", "(a|b", "((", "(()", "(a)(", "(*")
	bad(t, basic, "\\(", "\\(a", "\\(\\(a\\)", "a\\(", "\\(\\(", "\\(a\\)\\(", "\\(a)", "\\(a\\")
}

// P13.1: how many groups there are: 20 are a pattern, 21 are none.
func TestGroups(t *testing.T) {
	for _, n := range []int{0, 1, 2, 9, 10, 19, 20, 21, 22, 100} {
		for _, p := range []string{
			strings.Repeat("(a)", n), strings.Repeat("(", n) + "a" + strings.Repeat(")", n), strings.Repeat("()", n),
			strings.Repeat("(a){0}", n), strings.Repeat("(a)|", n), strings.Repeat("(", n) + strings.Repeat(")*", n), strings.Repeat("(a)", n) + "[(]\\(",
		} {
			q := strings.NewReplacer("\\(", "(", "[(]", "[(]", "(", "\\(", ")", "\\)", "{0}", "\\{0\\}").Replace(p)
			if n > 20 {
				bad(t, extended, p)
				bad(t, basic, q)
				continue
			}
			if r := must(t, p, extended); r.Groups() != n {
				t.Errorf("%s: %d groups, want %d", p, r.Groups(), n)
			}
			if r := must(t, q, basic); r.Groups() != n {
				t.Errorf("%s: %d groups, want %d", q, r.Groups(), n)
			}
		}
	}
	finds(t, "((a)(b))((c))", extended, "xabc", 1, 4, 1, 3, 1, 2, 2, 3, 3, 4, 3, 4)
	finds(t, "\\(\\(a\\)\\(b\\)\\)\\(\\(c\\)\\)", basic, "xabc", 1, 4, 1, 3, 1, 2, 2, 3, 3, 4, 3, 4)
}

// P13.1: MaxLine bytes are a pattern, one more is none.
func TestLongPatterns(t *testing.T) {
	if api.MaxLine != 4096 {
		t.Fatal(api.MaxLine)
	}
	for _, kind := range []int{basic, extended} {
		for _, n := range []int{4095, 4096, 4097, 5000, 100000} {
			check := good
			if n > api.MaxLine {
				check = bad
			}
			check(t, kind, "["+strings.Repeat("a", n-2)+"]")
			check(t, kind, "a"+strings.Repeat("*", n-1))
			check(t, kind, strings.Repeat("a**", 1000)+strings.Repeat("*", n-3000))
		}
	}
	good(t, extended, strings.Repeat("|", 4096))
	bad(t, extended, strings.Repeat("|", 4097))
	tells(t, "["+span('a', 'z')+strings.Repeat("a", 4096-28)+"]", basic, span('a', 'z'))
}

// P13.1: what is wrong at once in two ways is EREGEX, too, wherever it stands.
func TestTwoThingsWrong(t *testing.T) {
	for _, one := range []string{"(", "[", "a{3,2}", "\\d", "*", "[b-a]", strings.Repeat("a", 5000), strings.Repeat("()", 21), "a{255}{255}", "^*"} {
		bad(t, extended, one+"|(b)")
		for _, two := range []string{"(", ")", "[", "a{3,2}", "\\d", "+", "[[:x:]]", strings.Repeat("b", 5000), strings.Repeat("()", 21), "a{999}", "\\"} {
			if one+two != "()" {
				bad(t, extended, one+"|x|"+two, "("+one+"|"+two)
			}
		}
	}
}
