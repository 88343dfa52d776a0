package text_test

import (
	"fmt"
	"math"
	"strings"
	"testing"

	"tinsel/text"
)

// P15.1: the lines of texts, written out.
func TestLines(t *testing.T) {
	for _, x := range []struct {
		b     string
		want  []string
		ended bool
	}{
		{"", nil, true},
		{"\n", []string{""}, true},
		{"\n\n", []string{"", ""}, true},
		{"a", []string{"a"}, false},
		{"a\n", []string{"a"}, true},
		{"a\nb", []string{"a", "b"}, false},
		{"a\nb\n", []string{"a", "b"}, true},
		{"\na", []string{"", "a"}, false},
		{"a\n\n", []string{"a", ""}, true},
		{"a\n\nb", []string{"a", "", "b"}, false},
		{"\x00\n\xff", []string{"\x00", "\xff"}, false},
		{"\x00\xff\n", []string{"\x00\xff"}, true},
		{"a\r\nb\x0b\x0c\x85\u2028c\n", []string{"a\r", "b\x0b\x0c\x85\u2028c"}, true},
		{" \t\n é\n", []string{" \t", " é"}, true},
	} {
		l, ended := text.Lines([]byte(x.b))
		same(t, fmt.Sprintf("Lines(%q)", x.b), l, list(x.want...))
		if ended != x.ended {
			t.Errorf("Lines(%q): ended %v", x.b, ended)
		}
	}
}

// P15.1: each line with a line feed, the last one only if ended.
func TestWhole(t *testing.T) {
	for _, x := range []struct {
		l          []string
		ended, not string
	}{
		{nil, "", ""},
		{[]string{""}, "\n", ""},
		{[]string{"a"}, "a\n", "a"},
		{[]string{"a", "b"}, "a\nb\n", "a\nb"},
		{[]string{"", ""}, "\n\n", "\n"},
		{[]string{"a", ""}, "a\n\n", "a\n"},
		{[]string{"", "a"}, "\na\n", "\na"},
		{[]string{"a\n", "\n"}, "a\n\n\n\n", "a\n\n\n"},
		{[]string{"\x00\xff", "é"}, "\x00\xff\né\n", "\x00\xff\né"},
	} {
		is(t, fmt.Sprintf("Whole(%q, true)", x.l), text.Whole(list(x.l...), true), x.ended)
		is(t, fmt.Sprintf("Whole(%q, false)", x.l), text.Whole(list(x.l...), false), x.not)
	}
	is(t, "Whole of nils", text.Whole([][]byte{nil, {}, nil}, true), "\n\n\n")
	is(t, "Whole of no lines", text.Whole([][]byte{}, true), "")
}

// P15.9: Whole undoes Lines; no line has a line feed, and only a last line is not ended.
func TestWholeUndoesLines(t *testing.T) {
	for _, s := range everyText("a\n\x00", 8) {
		l, ended := text.Lines([]byte(s))
		is(t, "Whole of Lines", text.Whole(l, ended), s)
		for _, x := range l {
			if strings.Contains(string(x), "\n") {
				t.Errorf("Lines(%q): %q", s, l)
			}
		}
		if ended != (s == "" || strings.HasSuffix(s, "\n")) {
			t.Errorf("Lines(%q): %v", s, ended)
		}
	}
}

// heads: of a text of units (lines or bytes), parted by hand: Head and Tail by each number, the edges among them.
func heads(t *testing.T, units []string, head func([]byte, int) []byte, tail func([]byte, int, bool) []byte) {
	t.Helper()
	whole, k := strings.Join(units, ""), len(units)
	b := []byte(whole)
	what := func(call string, n any) string { return fmt.Sprintf("%s(%q, %v)", call, whole, n) }
	for n := range k + 1 {
		is(t, what("Head", n), head(b, n), strings.Join(units[:n], ""))
		is(t, what("Tail", n), tail(b, n, false), strings.Join(units[k-n:], ""))
		is(t, what("Tail from", n+1), tail(b, n+1, true), strings.Join(units[n:], ""))
		if n > 0 {
			is(t, what("Head", -n), head(b, -n), strings.Join(units[:k-n], ""))
		}
	}
	for _, n := range []int{k + 1, k + 2, k + 1000, math.MaxInt32, math.MaxInt - 1, math.MaxInt} {
		is(t, what("Head", n), head(b, n), whole)
		is(t, what("Head", -n), head(b, -n), "")
		is(t, what("Tail", n), tail(b, n, false), whole)
		is(t, what("Tail from", n), tail(b, n, true), "")
	}
	for _, n := range []int{0, -1, -k, -k - 1, math.MinInt32, math.MinInt + 1, math.MinInt} {
		is(t, what("Tail", n), tail(b, n, false), "")
		is(t, what("Tail from", n), tail(b, n, true), whole)
	}
	for _, n := range []int{math.MinInt32, math.MinInt + 1, math.MinInt} {
		is(t, what("Head", n), head(b, n), "")
	}
}

// P15.2: by lines.
func TestHeadAndTail(t *testing.T) {
	for _, l := range [][]string{
		{}, {"\n"}, {"a"}, {"a\n"}, {"\n", "\n"}, {"a\n", "b"}, {"a\n", "b\n"}, {"\n", "a"}, {"a\n", "\n"},
		{"a\n", "\n", "b\n", "\n", "c"}, {"\x00\n", "\xff\n", "é\n", " \t\r\n"}, {"one line\n", "another\n", "one that is not ended"},
	} {
		heads(t, l, text.Head, text.Tail)
	}
}

// P15.2: by bytes; line feeds are bytes as others are.
func TestHeadAndTailOfBytes(t *testing.T) {
	for _, s := range []string{"", "a", "\n", "ab", "a\n", "\n\n\n", "a\nb\nc", "\x00\xff\n\x00", "é\n"} {
		var l []string
		for i := range len(s) {
			l = append(l, s[i:i+1])
		}
		heads(t, l, text.HeadBytes, text.TailBytes)
	}
}

// P15.9: Head(b, n) and Tail(b, n + 1, true) make b, of n from 0 on.
func TestHeadAndTailMakeAll(t *testing.T) {
	for _, s := range everyText("a\n\xff", 6) {
		for n := range 9 {
			is(t, "Head and Tail", append(text.Head([]byte(s), n), text.Tail([]byte(s), n+1, true)...), s)
			is(t, "HeadBytes and TailBytes", append(text.HeadBytes([]byte(s), n), text.TailBytes([]byte(s), n+1, true)...), s)
		}
		is(t, "Head and Tail", append(text.Head([]byte(s), math.MaxInt-1), text.Tail([]byte(s), math.MaxInt, true)...), s)
		is(t, "HeadBytes and TailBytes", append(text.HeadBytes([]byte(s), math.MaxInt-1), text.TailBytes([]byte(s), math.MaxInt, true)...), s)
	}
}

// P15.4: each line's bytes backwards.
func TestRev(t *testing.T) {
	for s, want := range map[string]string{
		"": "", "\n": "\n", "a": "a", "ab": "ba", "ab\n": "ba\n", "abc\nd": "cba\nd", "\n\n": "\n\n", "\nab": "\nba", "ab\n\ncd\n": "ba\n\ndc\n",
		"\x00\xff\n": "\xff\x00\n", "é\n": "\xa9\xc3\n", "a b\t\r\n": "\r\tb a\n",
	} {
		is(t, fmt.Sprintf("Rev(%q)", s), text.Rev([]byte(s)), want)
	}
}

// P15.4: the lines, the last one first, each as it is.
func TestTac(t *testing.T) {
	for s, want := range map[string]string{
		"": "", "\n": "\n", "a": "a", "a\n": "a\n", "a\nb": "ba\n", "a\nb\n": "b\na\n", "a\nb\nc": "cb\na\n", "\n\n": "\n\n", "\na": "a\n", "a\n\n": "\na\n",
		"a\n\nb": "b\na\n", "\x00\n\xff\n": "\xff\n\x00\n",
	} {
		is(t, fmt.Sprintf("Tac(%q)", s), text.Tac([]byte(s)), want)
	}
}

// P15.9: Rev twice is b; so is Tac, if the last line is ended.
func TestTwiceIsOnce(t *testing.T) {
	for _, s := range everyText("ab\n", 7) {
		is(t, "Rev twice", text.Rev(text.Rev([]byte(s))), s)
		if s == "" || strings.HasSuffix(s, "\n") {
			is(t, "Tac twice", text.Tac(text.Tac([]byte(s))), s)
		}
	}
}
