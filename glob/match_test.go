package glob_test

import (
	"strings"
	"testing"

	"tinsel/glob"
)

// P12.1: bytes that match themselves, from the begin to the end.
func TestPlainBytes(t *testing.T) {
	matches(t, "", 0, "")
	misses(t, "", 0, "a", " ", "\x00", "/", ".", "*")
	matches(t, "a", 0, "a")
	misses(t, "a", 0, "", "b", "aa", "ab", "ba", "A")
	matches(t, "abc", 0, "abc")
	misses(t, "abc", 0, "", "ab", "bc", "abcd", "xabc", "ABC", "abd")
	matches(t, "]", 0, "]")
	matches(t, "a-c!^]{b,c}$.+()|", 0, "a-c!^]{b,c}$.+()|")
	misses(t, "a-c", 0, "b")
	misses(t, ".", 0, "a")
	for c := range 256 {
		s := string([]byte{byte(c)})
		if s == "*" || s == "?" {
			continue
		}
		tells(t, s, 0, s)
		if s != "\\" {
			tells(t, "\\"+s, 0, s)
			matches(t, s+"x", 0, s+"x")
		}
	}
}

// P12.1: one byte, any.
func TestQuestionMark(t *testing.T) {
	tells(t, "?", 0, span(0, 255))
	misses(t, "?", 0, "", "ab", "é")
	matches(t, "??", 0, "é", "ab", "//", "..")
	misses(t, "??", 0, "", "a", "abc")
	matches(t, "a?c", 0, "abc", "a/c", "a?c", "a\x00c", "a\xffc")
	misses(t, "a?c", 0, "ac", "abbc", "abd")
	matches(t, "?*", 0, "a", "ab")
	misses(t, "?*", 0, "")
	matches(t, "*?", 0, "a", "ab")
	misses(t, "*?", 0, "")
	matches(t, "*?*?*", 0, "ab", "abc", "abcdef")
	misses(t, "*?*?*", 0, "", "a")
}

// P12.1, P12.5: any number of bytes.
func TestStar(t *testing.T) {
	for _, stars := range []string{"*", "**", "***", strings.Repeat("*", 100)} {
		matches(t, stars, 0, append(each(), "", "abc", "/", "a/b", ".a", "\x00\xff", "*", "\\", strings.Repeat("x", 1000))...)
		matches(t, stars+"b", 0, "b", "ab", "bb", "abab", "/b")
		misses(t, stars+"b", 0, "", "a", "ba", "bba")
		matches(t, "a"+stars, 0, "a", "ab", "aa", "a/")
		misses(t, "a"+stars, 0, "", "b", "ba")
		matches(t, "a"+stars+"b", 0, "ab", "aab", "abb", "axxb", "abab")
		misses(t, "a"+stars+"b", 0, "", "a", "b", "ba", "aba", "xab")
		matches(t, stars+"a"+stars, 0, "a", "xa", "ax", "xax", "aa")
		misses(t, stars+"a"+stars, 0, "", "b", "bbb")
	}
	matches(t, "*.c", 0, "a.c", ".c", "a.b.c", ".c.c")
	misses(t, "*.c", 0, "", "c", "a.cc", "a.c.b", "axc")
}

// P12.1: a star that took too little is gone back to.
func TestStarsGoneBackTo(t *testing.T) {
	matches(t, "*aab", 0, "aab", "aaab", "aaaab", "aabaab", "aaxaab")
	misses(t, "*aab", 0, "ab", "aaba", "aabab")
	matches(t, "a*b?", 0, "axxbc", "abc", "abb", "abbb", "abxby")
	misses(t, "a*b?", 0, "ab", "axxb", "axxbcd")
	matches(t, "*ab*ab", 0, "abab", "ababab", "xabyab", "aabab")
	misses(t, "*ab*ab", 0, "ab", "aab", "abb", "abxabx")
	matches(t, "*a*b*c*", 0, "abc", "xaxbxcx", "cbabc", "aabbcc")
	misses(t, "*a*b*c*", 0, "acb", "bca", "cab", "")
	matches(t, "a*a*a", 0, "aaa", "aaaa", "abaca")
	misses(t, "a*a*a", 0, "a", "aa", "aba")
	matches(t, "*[ab]x*[!x]", 0, "axb", "xxaxxb", "axxb", "bxaxx.")
	misses(t, "*[ab]x*[!x]", 0, "ax", "axx", "cxb")
	many := strings.Repeat("a", 5000)
	matches(t, strings.Repeat("*a", 5000), 0, many)
	misses(t, strings.Repeat("*a", 5001), 0, many)
	misses(t, strings.Repeat("*a", 2000)+"*b", 0, many)
	misses(t, strings.Repeat("a*", 2000)+"b", 0, many)
	matches(t, strings.Repeat("a*", 2000)+"b", 0, many+"b")
	misses(t, "*"+strings.Repeat("a", 2000)+"b", 0, many)
	matches(t, "*"+strings.Repeat("a", 2000)+"b", 0, many+"b")
	matches(t, "*"+strings.Repeat("?", 2500)+"*"+strings.Repeat("a", 2500), 0, many)
	misses(t, "*"+strings.Repeat("?", 2500)+"*"+strings.Repeat("a", 2501), 0, many)
	misses(t, strings.Repeat("*?", 1000)+"[!a]", 0, many)
}

// P12.1: a backslash and the byte behind it.
func TestBackslash(t *testing.T) {
	for _, c := range each() {
		tells(t, "\\"+c, 0, c)
		matches(t, "x\\"+c+"y", 0, "x"+c+"y")
		misses(t, "x\\"+c+"y", 0, "x\\"+c+"y", "xy", "xzzy", "x"+c)
		matches(t, "\\"+c, plain, "\\"+c)
	}
	matches(t, "a\\*", 0, "a*")
	misses(t, "a\\*", 0, "a", "ab", "a\\", "a\\*", "a**")
	misses(t, "\\[a]", 0, "a", "\\a")
	matches(t, "\\[a]", 0, "[a]")
	matches(t, "\\\\*", 0, "\\", "\\a")
	misses(t, "\\\\*", 0, "*", "a", "")
	matches(t, "*\\*", 0, "*", "a*", "**")
	misses(t, "*\\*", 0, "", "a", "*a")
}

// P12.1: a backslash at the end is itself.
func TestBackslashAtTheEnd(t *testing.T) {
	for _, flags := range []int{0, plain} {
		matches(t, "\\", flags, "\\")
		misses(t, "\\", flags, "", "a", "\\\\")
		matches(t, "a\\", flags, "a\\")
		matches(t, "*\\", flags, "\\", "a\\", "\\\\")
		misses(t, "*\\", flags, "", "a", "\\a")
	}
	matches(t, "\\\\\\", 0, "\\\\")
	misses(t, "\\\\\\", 0, "\\", "\\\\\\")
	matches(t, "\\\\\\", plain, "\\\\\\")
	misses(t, "\\\\\\", plain, "\\", "\\\\")
}

// P12.1: with GlobPlain a backslash is a byte like others, in brackets too.
func TestPlain(t *testing.T) {
	matches(t, "a\\*", plain, "a\\", "a\\b", "a\\*")
	misses(t, "a\\*", plain, "a*", "a", "ab")
	matches(t, "\\?", plain, "\\a", "\\?")
	misses(t, "\\?", plain, "?", "\\", "a")
	matches(t, "\\[a]", plain, "\\a")
	misses(t, "\\[a]", plain, "[a]", "a")
	tells(t, "[\\]", plain, "\\")
	tells(t, "[\\a]", plain, "\\a")
	tells(t, "[!\\]", plain, without("\\"))
	tells(t, "[\\-a]", plain, "\\]^_`a")
	tells(t, "[Z-\\]", plain, "Z[\\")
	tells(t, "[a-\\]", plain, "")
	matches(t, "[\\]]", plain, "\\]")
	misses(t, "[\\]]", plain, "]", "\\")
	tells(t, "[]\\]", plain, "\\]")
}

// P12.1: bits of flags without a name say nothing.
func TestOtherFlags(t *testing.T) {
	for _, pattern := range []string{"*", "?a", "\\a", "[.]A", "[/]", "A*", "*/b", "[!b]*", "a"} {
		for flags := range 16 {
			for _, s := range []string{"", "a", "A", ".a", "/", "a/b", "\\a", "/.a", "\\", "."} {
				want := glob.Match(pattern, s, flags)
				for _, more := range []int{16, 32, 1 << 20, 1 << 62, -1 << 63, -16, -1 << 62} {
					says(t, want, pattern, flags|more, s)
				}
			}
		}
	}
	misses(t, "*", -1, ".a", "a/b")
	matches(t, "A\\*", -1, "a\\b")
	misses(t, "*", 1<<63-1, ".a", "a/b")
	matches(t, "*", -1<<63, ".a", "a/b")
}
