package text_test

import (
	"fmt"
	"strings"
	"testing"

	"tinsel/text"
)

// counted: what Count answers, as a text.
func counted(s string) string {
	feeds, words, bytes, longest := text.Count([]byte(s))
	return fmt.Sprint(feeds, words, bytes, longest)
}

// P15.3: line feeds, words, bytes, the most bytes of a line.
func TestCount(t *testing.T) {
	for s, want := range map[string]string{
		"": "0 0 0 0", "\n": "1 0 1 0", "\n\n\n": "3 0 3 0", "a": "0 1 1 1", "a\n": "1 1 2 1", "a b\nc": "1 3 5 3", "abc\nd\n": "2 2 6 3", "d\nabc": "1 2 5 3",
		"d\nabc\nef\n": "3 3 9 3", " a ": "0 1 3 3", "  a  b  ": "0 2 8 8", "\ta\t": "0 1 3 3", " ": "0 0 1 1", " \n \t\n": "2 0 5 2", "\n\nab": "2 1 4 2", "a\n\n\nb": "3 2 5 1",
		"\x00": "0 1 1 1", "\xff": "0 1 1 1", "a\x00b\xffc": "0 1 5 5", "é": "0 1 2 2", "a\u00a0b\u2028c\u0085d": "0 1 11 11", "a\x08b": "0 1 3 3", "\t\t\n": "1 0 3 2",
	} {
		told(t, fmt.Sprintf("Count(%q)", s), counted(s), want)
	}
}

// P15.3: words are parted by each sign of white space and by no other byte, alone and several times.
func TestWhiteSpace(t *testing.T) {
	for c := range 256 {
		sign := string([]byte{byte(c)})
		white := strings.Contains(" \t\n\v\f\r", sign)
		for _, x := range []struct {
			s            string
			words, plain int
		}{
			{sign, 0, 1}, {"a" + sign + "b", 2, 1}, {sign + "a", 1, 1}, {"a" + sign, 1, 1}, {"a" + sign + sign + "b", 2, 1}, {sign + "ab" + sign + "c" + sign, 2, 1}, {sign + " " + sign, 0, 2}, {"a " + sign + "\tb", 2, 3},
		} {
			want := x.plain
			if white {
				want = x.words
			}
			if _, n, _, _ := text.Count([]byte(x.s)); n != want {
				t.Errorf("words of %q: %d, want %d", x.s, n, want)
			}
		}
	}
}

// P15.3: the lengths of lines, the longest one at each place.
func TestLongestLine(t *testing.T) {
	for _, end := range []string{"", "\n"} {
		for at := range 5 {
			lines := []string{"a", "", "bc", "", "d"}
			lines[at] = strings.Repeat("x\t", 50)
			if _, _, _, n := text.Count([]byte(strings.Join(lines, "\n") + end)); n != 100 {
				t.Errorf("the longest at %d: %d", at, n)
			}
		}
	}
}
