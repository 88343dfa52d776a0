package expr_test

import (
	"fmt"
	"strings"
	"testing"

	"tinsel/api"
)

// matches: what : and match tell of a text and a pattern; both must be the same.
func matches(t *testing.T, s, pattern, want string) {
	t.Helper()
	what := fmt.Sprintf("%s : %s", brief(s), brief(pattern))
	told(t, what, eval("+", s, ":", "+", pattern), want)
	told(t, "match "+what, eval("match", "+", s, "+", pattern), want)
}

// P18.1: match without a group: how many bytes it has from the beginning on.
func TestMatchLength(t *testing.T) {
	for _, v := range [][3]string{
		{"abc", "abc", "3"}, {"abc", "ab", "2"}, {"abc", "a", "1"}, {"abc", ".*", "3"}, {"abc", ".", "1"}, {"abc", "[abc]*", "3"}, {"abc", "a.c", "3"}, {"aaa", "a\\{2\\}", "2"}, {"aaab", "a*", "3"}, {"abc", "abcd", "0"}, {"abc", "d", "0"},
		{"abc", "b", "0"}, {"abc", "c", "0"}, {"abc", "bc", "0"}, {"abc", "b*", "0"}, {"bbc", "b*", "2"}, {"abab", "b*ab", "2"}, {"xab", "ab", "0"},
		{"abc", "", "0"}, {"", "", "0"}, {"", "a*", "0"}, {"", ".", "0"}, {"", "^$", "0"}, {"abc", "^", "0"}, {"abc", "$", "0"},
		{"abc", "^abc$", "3"}, {"abc", "^a", "1"}, {"abc", "^b", "0"}, {"abc", "c$", "0"}, {"abc", "abc$", "3"}, {"abc", "ab$", "0"}, {"^a", "^^a", "2"}, {"a^b", "a^b", "3"}, {"a$b", "a$b", "3"},
		{"a+b", "a+b", "3"}, {"aab", "a+b", "0"}, {"a|b", "a|b", "3"}, {"a", "a|b", "0"}, {"ab", "(a)b", "0"}, {"(a)b", "(a)b", "4"}, {"a?", "a?", "2"}, {"a{2}", "a{2}", "4"}, {"*a", "*a", "2"},
		{"\xff\x80\x00x", ".*", "4"}, {"é", ".", "1"}, {"é", "..", "2"}, {"a\nb", "a.b", "3"}, {"a\nb", "a$", "0"}, {"a\nb", ".*", "3"}, {"Abc", "a", "0"}, {"[x]", "\\[x]", "3"}, {"a/b", "a\\/b", "3"}, {"12", "[0-9]*", "2"}, {"01", "[0-9][[:digit:]]", "2"},
	} {
		matches(t, v[0], v[1], v[2])
	}
}

// P18.1: match with a group: the first one's text; without a match, or a span, the empty one.
func TestMatchGroup(t *testing.T) {
	for _, v := range [][3]string{
		{"abc", "a\\(.\\)", "b"}, {"abc", "\\(.*\\)", "abc"}, {"abc", "\\(a\\)", "a"}, {"abc", "\\(ab\\)\\(c\\)", "ab"}, {"abc", "\\(a\\(b\\)\\)c", "ab"}, {"abc", "a\\(x*\\)bc", ""}, {"abc", "\\(\\)abc", ""}, {"abc", "\\(abcd\\)", ""},
		{"abc", "\\(b\\)", ""}, {"abc", "\\(c\\)", ""}, {"abc", "x\\(.\\)", ""}, {"", "\\(a\\)", ""}, {"", "\\(\\)", ""}, {"", "\\(a*\\)", ""}, {"xab", "\\(ab\\)", ""},
		{"b", "\\(a\\)*b", ""}, {"aab", "\\(a\\)*b", "a"}, {"abab", "\\(a.\\)*", "ab"}, {"aXbX", "\\(.X\\)*", "bX"}, {"bc", "\\(\\(a\\)*\\)bc", ""}, {"bc", "\\(a\\)*\\(b\\)c", ""}, {"bc", "\\(a\\)\\{0\\}bc", ""},
		{"0", "\\(.\\)", "0"}, {"a0", "a\\(.\\)", "0"}, {"a000b", "a\\(0*\\)b", "000"}, {"a-5", "a\\(.*\\)", "-5"}, {"\x00\xff", "\\(..\\)", "\x00\xff"}, {"a\nb", "a\\(.\\)", "\n"},
		{"key=value", ".*=\\(.*\\)", "value"}, {"/a/b/c", "\\(.*\\)/", "/a/b"}, {"a(b)", "a(\\(.\\))", "b"}, {"ab", "\\(^a\\)b", "a"}, {"ab", "a\\(b$\\)", "b"}, {"ba", "\\(^a\\)", ""},
	} {
		matches(t, v[0], v[1], v[2])
	}
}

// P18.1: of the matches that begin at 0 the longest one counts.
func TestMatchIsTheLongest(t *testing.T) {
	matches(t, "aab", "a*\\(ab\\)*", "ab")
	matches(t, "abab", "\\(ab\\)*", "ab")
	matches(t, "aaa", "a\\{1,2\\}", "2")
	matches(t, "aaa", "\\(a*\\)a*", "aaa")
	matches(t, "aaa", "\\(a*\\)\\(a*\\)", "aaa")
	matches(t, strings.Repeat("a", 3000), "a*", "3000")
	matches(t, strings.Repeat("a", 3000)+"b", "a*b", "3001")
}

// P18.1: patterns that are none: EREGEX, whatever the text.
func TestMatchNoPattern(t *testing.T) {
	for _, pattern := range list("\\(", "\\)", "a\\)", "\\(a", "[", "[a", "[b-a]", "[]", "\\", "a\\", "\\d", "a\\{", "a\\{1", "a\\{3,2\\}", "a\\{256\\}", "^\\{1\\}", "\\{1\\}", "[[:foo:]]", "[[.a.]]", strings.Repeat("\\(a\\)", 21), strings.Repeat("a", api.MaxLine+1), "a\\{255\\}b\\{255\\}c\\{255\\}d\\{255\\}e\\{255\\}f\\{255\\}g\\{255\\}h\\{255\\}") {
		for _, s := range list("", "abc", "x", "0") {
			matches(t, s, pattern, regexp)
		}
	}
	matches(t, "abc", strings.Repeat("\\(a*\\)", 20), "a")
}

// P18.1: substr.
func TestSubstr(t *testing.T) {
	for _, v := range [][4]string{
		{"hello", "2", "3", "ell"}, {"hello", "1", "5", "hello"}, {"hello", "1", "1", "h"}, {"hello", "5", "1", "o"}, {"hello", "5", "2", "o"}, {"hello", "5", most, "o"}, {"hello", "1", "6", "hello"}, {"hello", "1", most, "hello"}, {"hello", "4", "2", "lo"}, {"hello", "4", "3", "lo"},
		{"hello", "6", "1", ""}, {"hello", "7", "1", ""}, {"hello", most, "1", ""}, {"hello", most, most, ""}, {"hello", "6", most, ""},
		{"hello", "0", "1", ""}, {"hello", "0", "3", ""}, {"hello", "-0", "3", ""}, {"hello", "-1", "3", ""}, {"hello", "-" + most, "3", ""}, {"hello", "0", most, ""}, {"hello", "-1", most, ""}, {"hello", "-3", "7", ""},
		{"hello", "1", "0", ""}, {"hello", "1", "-0", ""}, {"hello", "1", "-1", ""}, {"hello", "1", "-" + most, ""}, {"hello", "0", "0", ""}, {"hello", "-1", "-1", ""},
		{"hello", "02", "003", "ell"}, {"", "1", "1", ""}, {"", "0", "1", ""}, {"", "1", most, ""}, {"\x00\xff\x80", "2", "2", "\xff\x80"}, {"éa", "2", "2", "\xa9a"}, {"a0b", "2", "1", "0"}, {"a\nb", "2", "1", "\n"},
	} {
		told(t, strings.Join(v[:3], " "), eval("substr", "+", v[0], v[1], v[2]), v[3])
	}
}

// P18.1: substr with what is no integer's text, whatever the other one is, and with what is too great.
func TestSubstrNoNumbers(t *testing.T) {
	for _, no := range noIntegers() {
		for _, other := range append(append(list("0", "1", "-1", "3", most), noIntegers()...), tooGreat()...) {
			told(t, "P "+no+", L "+other, eval("substr", "hello", "+", no, "+", other), "")
			told(t, "P "+other+", L "+no, eval("substr", "hello", "+", other, "+", no), "")
		}
	}
	for _, far := range tooGreat() {
		if far[0] == '-' {
			continue // below 1, too
		}
		for _, other := range list("1", "2", "5", "6", most, far) {
			told(t, "P "+far+", L "+other, eval("substr", "hello", far, other), ranges)
			told(t, "P "+other+", L "+far, eval("substr", "hello", other, far), ranges)
			told(t, "of the empty text", eval("substr", "", far, other), ranges)
		}
	}
}

// P18.1: substr as a cut at every place tells it.
func TestSubstrModel(t *testing.T) {
	const s = "abcdefg"
	for p := -2; p < 12; p++ {
		for l := -2; l < 12; l++ {
			want := ""
			for i := range len(s) {
				if p >= 1 && i+1 >= p && i+1 < p+l {
					want += s[i : i+1]
				}
			}
			told(t, fmt.Sprint("substr ", p, l), eval("substr", s, fmt.Sprint(p), fmt.Sprint(l)), want)
		}
	}
}

// P18.1: index: the first byte of A that is one of B's.
func TestIndex(t *testing.T) {
	for _, v := range [][3]string{
		{"hello", "h", "1"}, {"hello", "e", "2"}, {"hello", "l", "3"}, {"hello", "o", "5"}, {"hello", "x", "0"}, {"hello", "ol", "3"}, {"hello", "lo", "3"}, {"hello", "oh", "1"}, {"hello", "xyzo", "5"}, {"hello", "ell", "2"}, {"hello", "ll", "3"},
		{"hello", "", "0"}, {"", "a", "0"}, {"", "", "0"}, {"hello", "H", "0"}, {"hello", "hello", "1"}, {"a.b", ".", "2"}, {"aXb", ".*", "0"}, {"a-b", "x-z", "2"}, {"axb", "w-y", "0"}, {"ab]", "[]]", "3"},
		{"\x00a", "a", "2"}, {"a\x00", "\x00", "2"}, {"ab\xff", "\xff", "3"}, {"é", "\xa9", "2"}, {"é", "è", "1"}, {"10", "0", "2"}, {"aaa", "a", "1"},
	} {
		told(t, v[0]+", "+v[1], eval("index", "+", v[0], "+", v[1]), v[2])
	}
}

// P18.1: index of every byte.
func TestIndexOfAnyByte(t *testing.T) {
	var all []byte
	for c := range 256 {
		all = append(all, byte(c))
	}
	for c := range 256 {
		one := string(all[c : c+1])
		told(t, "index", eval("index", "+", string(all), "+", one), fmt.Sprint(c+1))
		told(t, "index", eval("index", "+", string(all[:c]), "+", one), "0")
		told(t, "index", eval("index", "+", one, "+", string(all)), "1")
		told(t, "index", eval("index", "+", one, "+", string(all[c+1:])+string(all[:c])), "0")
	}
}

// P18.1: length: how many bytes.
func TestLength(t *testing.T) {
	for s, want := range map[string]string{"": "0", "a": "1", "hello": "5", "é": "2", "\x00": "1", "\xff\xfe": "2", "a b": "3", "\n": "1", "0": "1", "-12": "3", "\xe2\x82": "2"} {
		told(t, s, eval("length", "+", s), want)
	}
	told(t, "length", eval("length", "(", "5", "*", "200", ")"), "4")
}
