package order_test

import (
	"fmt"
	"math"
	"testing"

	"tinsel/order"
)

// uniqs: what Uniq answers, as a text.
func uniqs(lines string, fields, chars int, fold bool) string {
	l, n := order.Uniq(apart(lines), fields, chars, fold)
	return fmt.Sprintf("%s %v", whole(l), n)
}

// P16.3: runs of the same lines.
func TestUniq(t *testing.T) {
	for lines, want := range map[string]string{
		"": " []", "a": "a [1]", "a|a": "a [2]", "a|b": "a|b [1 1]", "a|a|b|a": "a|b|a [2 1 1]", "a|b|b|b|a|a": "a|b|a [1 3 2]", "|": " [2]", "||a|": "|a| [2 1 1]", "a|A": "a|A [1 1]", "a| a|a ": "a| a|a  [1 1 1]", "\x00|\x00|\xff": "\x00|\xff [2 1]", "ab|a|abc": "ab|a|abc [1 1 1]",
	} {
		told(t, fmt.Sprintf("Uniq(%q)", lines), uniqs(lines, 0, 0, false), want)
	}
	for _, l := range [][][]byte{nil, {}} {
		if x, n := order.Uniq(l, 0, 0, true); len(x) != 0 || len(n) != 0 {
			t.Error("no lines", x, n)
		}
	}
	if x, n := order.Uniq([][]byte{nil, {}, nil}, 0, 0, false); fmt.Sprintf("%q %v", x, n) != `[""] [3]` {
		t.Errorf("empty lines: %q %v", x, n)
	}
}

// P16.3: behind the first fields: blanks, then bytes that are none.
func TestUniqFields(t *testing.T) {
	for _, x := range []struct {
		lines  string
		fields int
		want   string
	}{
		{"1 a|2 a|3 b", 1, "1 a|3 b [2 1]"}, {"1 a|2 a|3 b", 2, "1 a [3]"}, {"1 a|2 a|3 b", 0, "1 a|2 a|3 b [1 1 1]"}, {"1 a|2  a", 1, "1 a|2  a [1 1]"}, {"1 a|\t 22 a", 1, "1 a [2]"}, {" 1 a|2 a", 1, " 1 a [2]"},
		{"1 2 x|3\t\t4 x|5 6 y", 2, "1 2 x|5 6 y [2 1]"}, {"1 2 x|3\t\t4 x|5 6 y", 3, "1 2 x [3]"}, {"a|b", 1, "a [2]"}, {"a|b ", 1, "a|b  [1 1]"}, {"a|b ", 2, "a [2]"}, {"|a|  |b", 1, " [4]"}, {"a:b|c:b", 1, "a:b [2]"}, {"a\nb x|c x", 1, "a\nb x [2]"}, {"a\vb|c", 1, "a\vb [2]"},
		{"1 a|2 a", -1, "1 a|2 a [1 1]"}, {"1 a|2 a", math.MinInt, "1 a|2 a [1 1]"}, {"1 a|2 b", 3, "1 a [2]"}, {"1 a|2 b", math.MaxInt32, "1 a [2]"}, {"1 a|2 b|", math.MaxInt, "1 a [3]"}, {"\xff a|\x00 a", 1, "\xff a [2]"},
	} {
		told(t, fmt.Sprintf("Uniq(%q, %d)", x.lines, x.fields), uniqs(x.lines, x.fields, 0, false), x.want)
	}
}

// P16.3: and then behind the first bytes.
func TestUniqChars(t *testing.T) {
	for _, x := range []struct {
		lines         string
		fields, chars int
		want          string
	}{
		{"1a|2a|3b", 0, 1, "1a|3b [2 1]"}, {"1a|2a|3b", 0, 2, "1a [3]"}, {"1a|2a|3b", 0, 9, "1a [3]"}, {"a||b", 0, 1, "a [3]"}, {"ab||b", 0, 1, "ab| [1 2]"}, {"ab|a|b", 0, 1, "ab|a [1 2]"},
		{"1 a|2 b", 1, 1, "1 a|2 b [1 1]"}, {"1 a|2 b", 1, 2, "1 a [2]"}, {"1  a|2 xa", 1, 2, "1  a [2]"}, {"1  a|2 a", 1, 1, "1  a|2 a [1 1]"}, {"1 xa|2\tya|3 yb", 1, 2, "1 xa|3 yb [2 1]"}, {"1|2 ", 1, 1, "1 [2]"}, {"1 ab|2 ac", 1, 2, "1 ab|2 ac [1 1]"},
		{"1a|2a", 0, -1, "1a|2a [1 1]"}, {"1a|2a", 0, math.MinInt, "1a|2a [1 1]"}, {"1a|2b|", 0, math.MaxInt, "1a [3]"}, {"1a|2b", math.MaxInt, math.MaxInt, "1a [2]"}, {"1 a|2 a", math.MinInt, 1, "1 a [2]"}, {"1 a|2 a", 1, math.MinInt, "1 a [2]"}, {"1 a|2 b", 1, math.MaxInt, "1 a [2]"},
	} {
		told(t, fmt.Sprintf("Uniq(%q, %d, %d)", x.lines, x.fields, x.chars), uniqs(x.lines, x.fields, x.chars, false), x.want)
	}
}

// P16.3: fold: small letters as capitals.
func TestUniqFold(t *testing.T) {
	told(t, "fold", uniqs("a|A|b|B|a", 0, 0, true), "a|b|a [2 2 1]")
	told(t, "not", uniqs("a|A|b|B|a", 0, 0, false), "a|A|b|B|a [1 1 1 1 1]")
	told(t, "the first one", uniqs("Ab|aB|ab", 0, 0, true), "Ab [3]")
	told(t, "with fields", uniqs("1 xa|2 xA|3 XB", 1, 0, true), "1 xa|3 XB [2 1]")
	told(t, "with bytes", uniqs("1 xa|2 YA", 1, 2, true), "1 xa [2]")
	told(t, "signs", uniqs("[|{|@|`|a.|a", 0, 0, true), "[|{|@|`|a.|a [1 1 1 1 1 1]")
	for c := range 256 {
		s, want := string([]byte{byte(c)}), " [1 1]"
		if c >= 'a' && c <= 'z' || c >= 'A' && c <= 'Z' {
			want = " [2]"
		}
		l, n := order.Uniq(list("x"+s, string([]byte{'X', byte(c ^ 32)})), 0, 0, true)
		told(t, fmt.Sprintf("%q", l), fmt.Sprint(" ", n), want)
	}
}

// P16.8: the counts add up to the lines, and no two neighbours are the same.
func TestWhatUniqTells(t *testing.T) {
	for _, l := range everyList(4, "", "a", "A", "1 a", "2  A", " b") {
		for _, x := range []struct {
			fields, chars int
			fold          bool
		}{{0, 0, false}, {0, 0, true}, {1, 0, false}, {1, 1, true}, {0, 1, false}, {2, 0, false}, {-1, -1, true}} {
			got, counts := order.Uniq(l, x.fields, x.chars, x.fold)
			at := 0
			for i, n := range counts {
				if n < 1 || string(got[i]) != string(l[at]) {
					t.Fatalf("Uniq(%q, %v): %q %v", l, x, got, counts)
				}
				at += n
			}
			again, ones := order.Uniq(got, x.fields, x.chars, x.fold)
			if at != len(l) || len(got) != len(counts) || whole(again) != whole(got) || len(ones) != len(got) {
				t.Fatalf("Uniq(%q, %v): %q %v, and again %q %v", l, x, got, counts, again, ones)
			}
		}
	}
}
