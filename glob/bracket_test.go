package glob_test

import (
	"strings"
	"testing"
)

// P12.1: the bytes of a bracket's items, and the others.
func TestBracket(t *testing.T) {
	tells(t, "[a]", 0, "a")
	tells(t, "[abc]", 0, "abc")
	tells(t, "[cba]", 0, "abc")
	tells(t, "[aab]", 0, "ab")
	tells(t, "[!a]", 0, without("a"))
	tells(t, "[^a]", 0, without("a"))
	tells(t, "[!a-c]", 0, without("abc"))
	tells(t, "[a!]", 0, "!a")
	tells(t, "[a^]", 0, "^a")
	tells(t, "[!!]", 0, without("!"))
	tells(t, "[^^]", 0, without("^"))
	tells(t, "[!^]", 0, without("^"))
	tells(t, "[^!a]", 0, without("!a"))
	tells(t, "[*?]", 0, "*?")
	tells(t, "[[]", 0, "[")
	tells(t, "[[a]", 0, "[a")
	tells(t, "[!/.]", 0, without("/."))
	tells(t, "[\x00\xff\x80]", 0, "\x00\x80\xff")
	tells(t, "[:]", 0, ":")
	tells(t, "[ \n]", 0, "\n ")
	misses(t, "[abc]", 0, "", "ab", "[abc]", "d")
	misses(t, "[!a]", 0, "", "bb")
	matches(t, "[!a-c]x", 0, "dx")
	misses(t, "[!a-c]x", 0, "ax", "bx", "cx", "x", "dxx")
	matches(t, "[ab][ab]*[!ab]", 0, "abc", "baaaax", "aa.")
	misses(t, "[ab][ab]*[!ab]", 0, "ab", "aba", "ac")
}

// P12.1: a ] that comes first is an item.
func TestFirstEnd(t *testing.T) {
	tells(t, "[]a]", 0, "]a")
	tells(t, "[]]", 0, "]")
	tells(t, "[!]a]", 0, without("]a"))
	tells(t, "[^]a]", 0, without("]a"))
	tells(t, "[!]]", 0, without("]"))
	tells(t, "[]-a]", 0, "]^_`a")
	tells(t, "[!]-a]", 0, without("]^_`a"))
	tells(t, "[]-]", 0, "-]")
	tells(t, "[][]", 0, "[]")
	tells(t, "[][!]", 0, "![]")
	matches(t, "[a]]", 0, "a]")
	misses(t, "[a]]", 0, "a", "]")
	matches(t, "[]]]", 0, "]]")
	matches(t, "[]a]]", 0, "a]", "]]")
}

// P12.1: a [ without an end matches itself, and what stands behind it goes on as usual.
func TestNoEnd(t *testing.T) {
	for _, s := range []string{"[", "[a", "[abc", "[!", "[^", "[!a", "[]", "[!]", "[^]", "[]a", "[a-", "[a-z", "[[", "[[[", "[[:", "[[:digit:", "[:digit:", "[!]a", "[-", "[a[b[c"} {
		matches(t, s, 0, s)
		misses(t, s, 0, "", "a", "b]", s+"]", s[1:], s+s, "a"+s[1:])
		matches(t, "x"+s, 0, "x"+s)
	}
	matches(t, "[*", 0, "[", "[a", "[abc", "[]")
	misses(t, "[*", 0, "", "a", "a[")
	matches(t, "[?", 0, "[a", "[[")
	misses(t, "[?", 0, "[", "a", "[ab")
	matches(t, "*[", 0, "[", "a[", "[[")
	matches(t, "[\\", 0, "[\\")
	matches(t, "[\\a", 0, "[a")
	matches(t, "[\\]", 0, "[]")
	misses(t, "[\\]", 0, "]", "\\", "[\\]")
	matches(t, "[a-\\]", 0, "[a-]")
	matches(t, "[[:digit:]", 0, "[d", "[:", "[t")
	misses(t, "[[:digit:]", 0, "7", "[7", "[", "[[:digit:]", "d", "[x")
	matches(t, "[![:digit:]", 0, "[!d")
	matches(t, "[[:digit:][[:digit:]", 0, "[d[t", "[:[:")
	misses(t, "[[:digit:][[:digit:]", 0, "7", "[7[7", "dd")
	matches(t, "[a\\][b]", 0, "a", "b", "[", "]")
	matches(t, "[\\][]", 0, "[", "]")
	matches(t, "[[:alpha:][[:digit:]]", 0, "a", "7", "[")
	matches(t, "[[][", 0, "[[")
	matches(t, "[!][x", 0, "[!][x")
}

// P12.1: many a [ without an end, and among them brackets that have one.
func TestManyWithoutEnd(t *testing.T) {
	const n = 50
	one := "[[:alpha:]"
	for _, last := range []string{"", "x", "[", "[!", "\\]", "[a-\\]"} {
		s := strings.ReplaceAll(last, "\\", "")
		matches(t, strings.Repeat(one, n)+last, 0, strings.Repeat("[p", n)+s, strings.Repeat("[:", n)+s)
		misses(t, strings.Repeat(one, n)+last, 0, strings.Repeat("[p", n)+s+"x", strings.Repeat("[p", n-1)+s, strings.Repeat("[x", n)+s)
	}
	tells(t, strings.Repeat(one, n)+"]", 0, bytesOf("[[[:alpha:]]", 0))
	tells(t, strings.Repeat("[", n)+"]", 0, "[")
}

// P12.1: the bytes from one to another.
func TestRanges(t *testing.T) {
	tells(t, "[a-c]", 0, "abc")
	tells(t, "[a-a]", 0, "a")
	tells(t, "[a-cx-z]", 0, "abcxyz")
	tells(t, "[c-a]", 0, "")
	tells(t, "[!c-a]", 0, span(0, 255))
	tells(t, "[c-ax]", 0, "x")
	tells(t, "[xc-a]", 0, "x")
	tells(t, "[\x00-\xff]", 0, span(0, 255))
	tells(t, "[!\x00-\xff]", 0, "")
	tells(t, "[\x80-\xff]", 0, span(128, 255))
	tells(t, "[é]", 0, "\xa9\xc3")
	tells(t, "[Z-a]", 0, "Z[\\]^_`a")
	tells(t, "[!-a]", 0, without("-a")) // no range: ! turns the bracket round
	tells(t, "[^-a]", 0, without("-a"))
	tells(t, "[ -!]", 0, " !")
	tells(t, "[*-/]", 0, "*+,-./")
}

// P12.1: a - that makes no range, or is an end of one.
func TestDashes(t *testing.T) {
	tells(t, "[-]", 0, "-")
	tells(t, "[--]", 0, "-")
	tells(t, "[---]", 0, "-")
	tells(t, "[!-]", 0, without("-"))
	tells(t, "[-a]", 0, "-a")
	tells(t, "[a-]", 0, "-a")
	tells(t, "[!a-]", 0, without("-a"))
	tells(t, "[a-c-]", 0, "-abc")
	tells(t, "[a-c-e]", 0, "-abce")
	tells(t, "[a-c-e-g]", 0, "-abcefg")
	tells(t, "[--/]", 0, "-./")
	tells(t, "[+--]", 0, "+,-")
	tells(t, "[a--]", 0, "")
	tells(t, "[[-a]", 0, "[\\]^_`a")
	tells(t, "[A-[]", 0, span('A', '['))
	matches(t, "[a-]]", 0, "a]", "-]")
	misses(t, "[a-]]", 0, "a", "]", "b]")
}

// P12.1: a backslash ahead of a byte of an item.
func TestBackslashInBracket(t *testing.T) {
	tells(t, "[\\a]", 0, "a")
	tells(t, "[\\]]", 0, "]")
	tells(t, "[a\\]b]", 0, "]ab")
	tells(t, "[\\\\]", 0, "\\")
	tells(t, "[!\\]]", 0, without("]"))
	tells(t, "[\\!a]", 0, "!a")
	tells(t, "[\\^a]", 0, "^a")
	tells(t, "[a\\-c]", 0, "-ac")
	tells(t, "[\\a-\\c]", 0, "abc")
	tells(t, "[\\--/]", 0, "-./")
	tells(t, "[+-\\-]", 0, "+,-")
	tells(t, "[Z-\\]]", 0, "Z[\\]")
	tells(t, "[\\]-a]", 0, "]^_`a")
	tells(t, "[a-\\]]", 0, "")
	tells(t, "[\\n]", 0, "n")
	matches(t, "[\\[:digit:]]", 0, "d]", ":]", "[]")
	misses(t, "[\\[:digit:]]", 0, "7", "d", "7]", "\\]")
	matches(t, "[[:\\digit:]]", 0, "d]", "[]")
	misses(t, "[[:\\digit:]]", 0, "7", "\\]")
}

// P12.1: classes in a bracket, and names that are none.
func TestClassesInBracket(t *testing.T) {
	for name, want := range classes() {
		tells(t, "[[:"+name+":]]", 0, want)
		tells(t, "[![:"+name+":]]", 0, without(want))
		tells(t, "[^[:"+name+":]]", 0, without(want))
		matches(t, "[:"+name+":]", 0, ":", name[:1], name[1:2])
		misses(t, "[:"+name+":]", 0, "", "7", "A", "[")
	}
	matches(t, "[[:digit:]]", 0, "7")
	tells(t, "[a[:digit:]b]", 0, "0123456789ab")
	tells(t, "[[:digit:][:blank:]]", 0, "\t 0123456789")
	tells(t, "[[:digit:]-]", 0, "-0123456789")
	tells(t, "[[:digit:]-a]", 0, "-0123456789a")
	tells(t, "[][:digit:]]", 0, "0123456789]")
	for _, name := range []string{"", "x", "Digit", "DIGIT", "digits", "digi", "digit ", " digit", "alphadigit", "word", "\xff", "di\x00git"} {
		for i := range len("[:" + name) {
			matches(t, "[[:"+name+":]]", 0, ("[:" + name)[i:i+1]+"]")
		}
		misses(t, "[[:"+name+":]]", 0, "7", "7]", "[", "]", "")
	}
	tells(t, "[[:x:]", 0, ":[x")
	tells(t, "[[:digit]", 0, ":[dgit")
	tells(t, "[[:x-z:]", 0, ":[xyz")
	matches(t, "[[:]]", 0, "[]", ":]")
	matches(t, "[A-[:digit:]]", 0, "A]", "Z]", "[]", "d]", ":]")
	misses(t, "[A-[:digit:]]", 0, "7", "7]", "A")
	matches(t, "[\x00-[:digit:]]", 0, "\x00]", "7]", "[]", "d]")
	misses(t, "[\x00-[:digit:]]", 0, "7", "\x00", "a]")
}
