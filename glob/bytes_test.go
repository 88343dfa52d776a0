package glob_test

import (
	"fmt"
	"strings"
	"testing"

	"tinsel/api"
	"tinsel/glob"
)

// translates: Translate answers these bytes.
func translates(t *testing.T, b, from, to, want string) {
	t.Helper()
	got, e := glob.Translate([]byte(b), []byte(from), []byte(to))
	is(t, fmt.Sprintf("Translate(%s, %q, %q)", brief(b), from, to), answer(got, e), answer([]byte(want), api.OK))
}

// deletes, squeezes: what these calls answer.
func deletes(t *testing.T, b, set, want string) {
	t.Helper()
	is(t, fmt.Sprintf("Delete(%s, %q)", brief(b), set), string(glob.Delete([]byte(b), []byte(set))), want)
}

func squeezes(t *testing.T, b, set, want string) {
	t.Helper()
	is(t, fmt.Sprintf("Squeeze(%s, %q)", brief(b), set), string(glob.Squeeze([]byte(b), []byte(set))), want)
}

// P12.3: the other bytes, rising.
func TestComplement(t *testing.T) {
	complements := func(set, want string) {
		t.Helper()
		is(t, fmt.Sprintf("Complement(%s)", brief(set)), string(glob.Complement([]byte(set))), want)
	}
	complements("", span(0, 255))
	complements(span(0, 255), "")
	complements(strings.Repeat(span(0, 255), 3), "")
	complements("a", span(0, 'a'-1)+span('b', 255))
	complements("aa", span(0, 'a'-1)+span('b', 255))
	complements("ba", span(0, 'a'-1)+span('c', 255))
	complements("\x00\xff", span(1, 254))
	complements(span(0, 127), span(128, 255))
	complements(span(128, 255), span(0, 127))
	complements(span(1, 255), "\x00")
	complements(span(0, 254), "\xff")
}

// P12.6: Complement of Complement is the set, each byte once, rising.
func TestComplementTwice(t *testing.T) {
	for s, want := range map[string]string{"": "", "cab": "abc", "aabbaa": "ab", "\xff\x00\x80": "\x00\x80\xff", span(0, 255): span(0, 255), "é": "\xa9\xc3", strings.Repeat("zy", 5000): "yz"} {
		is(t, brief(s), string(glob.Complement(glob.Complement([]byte(s)))), want)
	}
}

// P12.3: each byte as the one at the same place of to.
func TestTranslate(t *testing.T) {
	translates(t, "abc", "abc", "xyz", "xyz")
	translates(t, "abc", "ab", "x", "xxc")
	translates(t, "abc", "abc", "xy", "xyy")
	translates(t, "abc", "a", "xyz", "xbc")
	translates(t, "abcabc", "ca", "12", "2b12b1")
	translates(t, "", "abc", "xyz", "")
	translates(t, "abc", "xyz", "123", "abc")
	translates(t, "ab", "ab", "ba", "ba") // what has become another is not looked up again
	translates(t, "aabb", "ab", "bc", "bbcc")
	translates(t, "a\x00\xff", "\x00\xff", "\xff\x00", "a\xff\x00")
	translates(t, span(0, 255), span(0, 255), span(0, 255), span(0, 255))
	translates(t, "Hello", span('a', 'z'), span('A', 'Z'), "HELLO")
	translates(t, "abc", span(0, 255), "x", "xxx")
}

// P12.3: of a byte that is in from twice the first place counts.
func TestTranslateTwice(t *testing.T) {
	translates(t, "a", "aa", "xy", "x")
	translates(t, "ab", "aba", "xyz", "xy")
	translates(t, "ab", "baab", "wxyz", "xw")
	translates(t, "ab", "abab", "x", "xx")
	translates(t, "ab", "aab", "xy", "xy")
	translates(t, "ab", "aaaaab", "xy", "xy")
}

// P12.3: EINVAL, if to is empty, and from is not.
func TestTranslateToNothing(t *testing.T) {
	translates(t, "abc", "", "", "abc")
	translates(t, "abc", "", "x", "abc")
	translates(t, "", "", "", "")
	for _, b := range []string{"", "a", "xyz"} {
		for _, from := range []string{"a", "abc", "\x00", span(0, 255)} {
			got, e := glob.Translate([]byte(b), []byte(from), nil)
			is(t, "to nothing", answer(got, e), answer(nil, api.EINVAL))
			got, e = glob.Translate([]byte(b), []byte(from), []byte{})
			is(t, "to nothing", answer(got, e), answer(nil, api.EINVAL))
		}
	}
}

// P12.6: Translate keeps the length; there and back by unlike bytes is as it was.
func TestThereAndBack(t *testing.T) {
	from, to := "abcdef", "uvwxyz"
	for _, s := range everyText("abcd", 5) {
		there, _ := glob.Translate([]byte(s), []byte(from), []byte(to))
		back, e := glob.Translate(there, []byte(to), []byte(from))
		if len(there) != len(s) {
			t.Errorf("%q: %q", s, there)
		}
		is(t, s, answer(back, e), answer([]byte(s), api.OK))
	}
	all := span(0, 255)
	turned := all[77:] + all[:77]
	there, _ := glob.Translate([]byte(all), []byte(all), []byte(turned))
	is(t, "turned", string(there), turned)
	back, _ := glob.Translate(there, []byte(turned), []byte(all))
	is(t, "turned back", string(back), all)
	short, _ := glob.Translate([]byte(strings.Repeat("abc", 1000)), []byte("abc"), []byte("x"))
	is(t, "short", string(short), strings.Repeat("x", 3000))
}

// P12.3: without the bytes of a set.
func TestDelete(t *testing.T) {
	deletes(t, "", "", "")
	deletes(t, "", "abc", "")
	deletes(t, "abc", "", "abc")
	deletes(t, "abc", "b", "ac")
	deletes(t, "abcabc", "ca", "bb")
	deletes(t, "abc", "cba", "")
	deletes(t, "aaabbb", "aa", "bbb")
	deletes(t, "abc", "xyz", "abc")
	deletes(t, "a\x00b\xffc\x80", "\x00\xff\x80", "abc")
	deletes(t, "é", "\xc3", "\xa9")
	deletes(t, span(0, 255), span(0, 255), "")
	deletes(t, span(0, 255), span(128, 255), span(0, 127))
}

// P12.3: of each run of a byte of a set the first one alone.
func TestSqueeze(t *testing.T) {
	squeezes(t, "", "", "")
	squeezes(t, "", "a", "")
	squeezes(t, "aabbcc", "ab", "abcc")
	squeezes(t, "aabbcc", "", "aabbcc")
	squeezes(t, "aabbcc", "abc", "abc")
	squeezes(t, "aaaa", "a", "a")
	squeezes(t, "aaaa", "b", "aaaa")
	squeezes(t, "abab", "ab", "abab")
	squeezes(t, "aabaa", "a", "aba")
	squeezes(t, "aabbaa", "aa", "abba")
	squeezes(t, "a  b   c", " ", "a b c")
	squeezes(t, "\x00\x00\xff\xff\x80\x80", "\x00\xff", "\x00\xff\x80\x80")
	squeezes(t, "\x00a", "\x00", "\x00a")
	squeezes(t, strings.Repeat("\n", 1000), "\n", "\n")
}

// P12.6: Squeeze of Squeeze is Squeeze; Delete of Delete, likewise.
func TestTwice(t *testing.T) {
	for _, s := range everyText("abc", 7) {
		for _, set := range []string{"", "a", "ab", "cb", "abc", "x"} {
			b := []byte(set)
			one := glob.Squeeze([]byte(s), b)
			is(t, "Squeeze twice of "+s, string(glob.Squeeze(one, b)), string(one))
			one = glob.Delete([]byte(s), b)
			is(t, "Delete twice of "+s, string(glob.Delete(one, b)), string(one))
		}
	}
}
