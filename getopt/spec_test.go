package getopt_test

import (
	"strings"
	"testing"
)

// A spec: what is one.
func TestSpecs(t *testing.T) {
	for _, spec := range []string{"", "+", "a", "+a", "a:", "+a:", "ab:c", "+ab:c", "b:a", "a:b:", "aA", "Aa", "a:A", "aA:", "0", "0:1", "+9", "z:Z:", "az:AZ:09:"} {
		parses(t, spec, nil, nil, nil)
		parses(t, spec, words("x -"), nil, words("x -"))
		joins(t, spec, nil, words("x"), words("-- x"))
	}
}

// A spec: what is none.
func TestNoSpecs(t *testing.T) {
	for _, spec := range []string{
		"++", "++a", "a+", "a+b", "+a+", "a:+", "+:+", // a + twice, or not in front
		":", ":a", "::", "+:", "+:a", "+::a", // a : that belongs to no letter
		"a::", "a::b", "a:b::", "+a::", "a:::", ":a:", // a : twice
		"aa", "aba", "a:a", "aa:", "a:a:", "+aa", "ab:cb", "ab:cb:", "abcdea", "00", "A0A", "zZz", // a letter twice
		"-", "a-", "-a", "?", "a?", "a b", " a", "a ", "a,b", "_", "a_", "a;", "\x00", "a\x00", "a\n", ".", "/a", "@", "[", "`", "{", // neither letter nor digit
		"\x80", "a\x80", "\xff", "a\xffb", "é", "aéb", "é:", "\xc3:", "\xa9", "ａ", "٣", "²", "ß", "\ufffd", "a\ufffd:", "a：", "＋a", "+\xff", "a\u0301", "\u212a", // of more than one byte
	} {
		noSpec(t, spec)
	}
	noSpec(t, strings.Repeat("a", 100000))
	noSpec(t, strings.Repeat(":", 100000))
	noSpec(t, strings.Repeat("+", 100000))
	noSpec(t, everyLetter+"a")
	noSpec(t, everyLetter+"9:")
}

// A spec: of one byte, of every kind; alone, behind a + and behind a letter.
func TestSpecOfEachByte(t *testing.T) {
	for c := range 256 {
		s := oneByte(c)
		switch {
		case isWord(c):
			for _, spec := range []string{s, "+" + s, s + ":", "+" + s + ":"} {
				parses(t, spec, nil, nil, nil)
			}
			noSpec(t, s+s)
			noSpec(t, s+":"+s)
			noSpec(t, s+s+":")
			parses(t, s, []string{"-" + s}, given(s), nil)
			parses(t, s+":", []string{"-" + s + "x"}, given(s+"=x"), nil)
		case c == '+':
			parses(t, s, nil, nil, nil)
			noSpec(t, "!"+s)
		default:
			noSpec(t, s)
			noSpec(t, s+":")
			noSpec(t, "+"+s)
			noSpec(t, s+"!")
		}
		if !isWord(c) && c != ':' {
			noSpec(t, "q"+s)
			noSpec(t, "q:"+s)
			noSpec(t, s+s)
		}
	}
}

// A spec: all letters and digits at once; a small one is not the great one.
func TestGreatSpec(t *testing.T) {
	withArgument := strings.Join(strings.Split(everyLetter, ""), ":") + ":"
	uses(t, everyLetter, "[-"+everyLetter+"]")
	parses(t, "+"+everyLetter, []string{"-" + everyLetter}, given(strings.Join(strings.Split(everyLetter, ""), " ")), nil)
	for i := range len(everyLetter) {
		s := everyLetter[i : i+1]
		parses(t, withArgument, []string{"-" + s + everyLetter}, given(s+"="+everyLetter), nil)
		parses(t, everyLetter, []string{"-" + s}, given(s), nil)
		without := strings.Replace(everyLetter, s, "", 1)
		unknown(t, without, []string{"-" + s}, s)
		unknown(t, without, []string{"-" + everyLetter}, s)
	}
	parses(t, "a:A", words("-A -aA -Aa x"), given("A a=A A a=x"), nil)
	unknown(t, "a", words("-A"), "A")
	unknown(t, "A", words("-a"), "a")
}

// P9.3: Usage.
func TestUsage(t *testing.T) {
	for _, x := range [][2]string{
		{"", ""}, {"+", ""},
		{"a", "[-a]"}, {"ab", "[-ab]"}, {"ba", "[-ba]"}, {"+ba", "[-ba]"}, {"zA0", "[-zA0]"},
		{"a:", "[-a arg]"}, {"a:b:", "[-a arg] [-b arg]"}, {"b:a:", "[-b arg] [-a arg]"}, {"+b:a:", "[-b arg] [-a arg]"}, {"0:", "[-0 arg]"},
		{"ab:c", "[-ac] [-b arg]"}, {"b:ac", "[-ac] [-b arg]"}, {"acb:", "[-ac] [-b arg]"}, {"+ab:c", "[-ac] [-b arg]"},
		{"z:ay:bx:c", "[-abc] [-z arg] [-y arg] [-x arg]"}, {"c:ba:", "[-b] [-c arg] [-a arg]"}, {"a:A", "[-A] [-a arg]"},
	} {
		uses(t, x[0], x[1])
	}
}
