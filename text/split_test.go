package text_test

import (
	"fmt"
	"math"
	"strings"
	"testing"

	"tinsel/api"
	"tinsel/text"
)

// pieces: what Split answers, as a text.
func pieces(s string, lines, bytes int, prefix string) string {
	names, l, e := text.Split([]byte(s), lines, bytes, prefix)
	return fmt.Sprintf("%q %q %d", names, l, int(e))
}

// splits: what it should answer: names and pieces by turns.
func splits(t *testing.T, s string, lines, bytes int, prefix string, want ...string) {
	t.Helper()
	var names, l []string
	for i := 0; i < len(want); i += 2 {
		names, l = append(names, want[i]), append(l, want[i+1])
	}
	told(t, fmt.Sprintf("Split(%q, %d, %d, %q)", s, lines, bytes, prefix), pieces(s, lines, bytes, prefix), fmt.Sprintf("%q %q 0", names, l))
}

// P15.8: by lines.
func TestSplitByLines(t *testing.T) {
	for _, n := range []int{1, 2, 100, math.MaxInt32, math.MaxInt - 1, math.MaxInt} {
		splits(t, "", n, 0, "x")
		splits(t, "\n", n, 0, "x", "xaa", "\n")
		splits(t, "a", n, 0, "x", "xaa", "a")
		splits(t, "a\n", n, 0, "", "aa", "a\n")
	}
	splits(t, "a\nb\nc", 1, 0, "x", "xaa", "a\n", "xab", "b\n", "xac", "c")
	splits(t, "a\nb\nc", 2, 0, "x", "xaa", "a\nb\n", "xab", "c")
	splits(t, "a\nb\nc\nd\n", 2, 0, "x", "xaa", "a\nb\n", "xab", "c\nd\n")
	splits(t, "a\nb\nc\nd\n", 3, 0, "p/q", "p/qaa", "a\nb\nc\n", "p/qab", "d\n")
	splits(t, "a\nb\nc\nd", 4, 0, "x", "xaa", "a\nb\nc\nd")
	splits(t, "a\nb\nc\nd", 5, 0, "x", "xaa", "a\nb\nc\nd")
	splits(t, "\n\n\n", 1, 0, "\x00\xff", "\x00\xffaa", "\n", "\x00\xffab", "\n", "\x00\xffac", "\n")
	splits(t, "\x00\n\n\xff", 2, 0, "", "aa", "\x00\n\n", "ab", "\xff")
}

// P15.8: by bytes.
func TestSplitByBytes(t *testing.T) {
	for _, n := range []int{1, 2, 100, math.MaxInt32, math.MaxInt - 1, math.MaxInt} {
		splits(t, "", 0, n, "x")
		splits(t, "\n", 0, n, "x", "xaa", "\n")
	}
	splits(t, "abcde", 0, 1, "x", "xaa", "a", "xab", "b", "xac", "c", "xad", "d", "xae", "e")
	splits(t, "abcde", 0, 2, "x", "xaa", "ab", "xab", "cd", "xac", "e")
	splits(t, "abcdef", 0, 2, "", "aa", "ab", "ab", "cd", "ac", "ef")
	splits(t, "a\nb\n", 0, 3, "x", "xaa", "a\nb", "xab", "\n")
	splits(t, "abcd", 0, 4, "x", "xaa", "abcd")
	splits(t, "abcd", 0, 5, "x", "xaa", "abcd")
	splits(t, "\x00\xff\n", 0, 2, "x", "xaa", "\x00\xff", "xab", "\n")
}

// P15.8: EINVAL, unless one is 0 and the other above 0.
func TestSplitByNothing(t *testing.T) {
	for _, lines := range append([]int{-1, 0, 1, 2}, farInts...) {
		for _, bytes := range append([]int{-1, 0, 1, 2}, farInts...) {
			if (lines == 0) != (bytes == 0) && lines >= 0 && bytes >= 0 {
				continue
			}
			for _, s := range []string{"", "a\nb\n", strings.Repeat("\n", 1000)} {
				told(t, fmt.Sprintf("Split(%d bytes, %d, %d)", len(s), lines, bytes), pieces(s, lines, bytes, "x"), "[] [] 22")
			}
		}
	}
}

// P15.8: just 676 pieces have names, aa to zz; ERANGE of one more.
func TestSplitIntoMany(t *testing.T) {
	for _, size := range []int{1, 2, 7, 1000} {
		for _, unit := range []string{"a\n", "\n", "a"} {
			lines, bytes, step := size, 0, size*len(unit)
			if unit == "a" {
				lines, bytes = 0, size
			}
			most := strings.Repeat(unit, 676*size)
			for _, less := range []int{0, 1, size - 1} {
				s := most[:len(most)-less*len(unit)]
				names, l, e := text.Split([]byte(s), lines, bytes, "p")
				if len(names) != 676-less/size || len(l) != len(names) || e != api.OK {
					t.Fatalf("%d of %d: %d, %d, %v", len(s), size, len(names), len(l), e)
				}
				for i := range l {
					told(t, "name", names[i], "p"+string(rune('a'+i/26))+string(rune('a'+i%26)))
					is(t, names[i], l[i], s[i*step:min(i*step+step, len(s))])
				}
			}
			for _, more := range []int{1, size, 5 * size} {
				told(t, fmt.Sprint("more by ", more), pieces(most+strings.Repeat(unit, more), lines, bytes, "p"), "[] [] 34")
			}
			if lines > 0 {
				told(t, "a line that is not ended", pieces(most+"x", lines, bytes, "p"), "[] [] 34")
			}
		}
	}
	names, _, _ := text.Split([]byte(strings.Repeat("\n", 676)), 1, 0, "")
	same(t, "names", []string{names[0], names[1], names[25], names[26], names[27], names[650], names[675]}, []string{"aa", "ab", "az", "ba", "bb", "za", "zz"})
}

// P15.10: Split's pieces make b; all but the last are just as great.
func TestPiecesMakeAll(t *testing.T) {
	for _, s := range everyText("a\nb", 7) {
		for n := 1; n < 9; n++ {
			names, l, _ := text.Split([]byte(s), n, 0, "x")
			whole := ""
			for i, p := range l {
				whole += string(p)
				if k := len(strings.SplitAfter(strings.TrimSuffix(string(p), "\n"), "\n")); k > n || i < len(l)-1 && k != n || len(p) == 0 {
					t.Errorf("Split(%q, %d): %q", s, n, l)
				}
			}
			told(t, "pieces of lines", whole, s)
			whole = ""
			more, l, _ := text.Split([]byte(s), 0, n, "x")
			for i, p := range l {
				whole += string(p)
				if len(p) > n || i < len(l)-1 && len(p) != n || len(p) == 0 {
					t.Errorf("Split(%q by %d bytes): %q", s, n, l)
				}
			}
			told(t, "pieces of bytes", whole, s)
			if len(names) > 0 && (names[0] != "xaa" || more[0] != "xaa") {
				t.Errorf("names of %q: %q %q", s, names, more)
			}
		}
	}
}
