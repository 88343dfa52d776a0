package text_test

import (
	"fmt"
	"math"
	"strings"
	"testing"

	"tinsel/api"
	"tinsel/text"
)

// The calls, with the signatures that the chapter lists.
var (
	_ func([]byte) ([][]byte, bool)                                  = text.Lines
	_ func([][]byte, bool) []byte                                    = text.Whole
	_ func([]byte, int) []byte                                       = text.Head
	_ func([]byte, int) []byte                                       = text.HeadBytes
	_ func([]byte, int, bool) []byte                                 = text.Tail
	_ func([]byte, int, bool) []byte                                 = text.TailBytes
	_ func([]byte) (int, int, int, int)                              = text.Count
	_ func([]byte, []api.Range) []byte                               = text.CutBytes
	_ func([]byte, []api.Range, byte, bool) []byte                   = text.CutFields
	_ func([]byte) []byte                                            = text.Rev
	_ func([]byte) []byte                                            = text.Tac
	_ func([]byte, int, int, int, bool) []byte                       = text.Number
	_ func([][]byte, string) []byte                                  = text.Paste
	_ func([][]byte, string) []byte                                  = text.Serial
	_ func([]byte, int, bool) ([]byte, api.Errno)                    = text.Fold
	_ func([]byte, []int) ([]byte, api.Errno)                        = text.Expand
	_ func([]byte, []int, bool) ([]byte, api.Errno)                  = text.Unexpand
	_ func([]byte, []byte) (int, int)                                = text.Cmp
	_ func([]byte, int) ([]byte, api.Errno)                          = text.Od
	_ func([]byte, int, int, string) ([]string, [][]byte, api.Errno) = text.Split
)

// Ints at their ends, and near them.
var farInts = []int{math.MinInt, math.MinInt + 1, math.MinInt32, math.MaxInt32, math.MaxInt - 1, math.MaxInt}

// brief: a text in quotes, or how it begins and how long it is.
func brief(s string) string {
	if len(s) <= 300 {
		return fmt.Sprintf("%q", s)
	}
	return fmt.Sprintf("%q.. (%d bytes)", s[:300], len(s))
}

// is: the bytes of an answer.
func is(t *testing.T, what string, got []byte, want string) {
	t.Helper()
	if string(got) != want {
		t.Errorf("%s: %s, want %s", what, brief(string(got)), brief(want))
	}
}

// same: are they told alike?
func same(t *testing.T, what string, got, want any) {
	t.Helper()
	if a, b := fmt.Sprintf("%q", got), fmt.Sprintf("%q", want); a != b {
		t.Errorf("%s: %s, want %s", what, brief(a), brief(b))
	}
}

// answer: bytes beside an error, as one text; of an error the bytes must be none.
func answer(b []byte, e api.Errno) string {
	if e != api.OK {
		return fmt.Sprintf("%d bytes, error %d", len(b), int(e))
	}
	return string(b)
}

// refused: what answer tells of an error.
func refused(e api.Errno) string { return fmt.Sprintf("0 bytes, error %d", int(e)) }

// told: likewise of a call.
func told(t *testing.T, what, got, want string) {
	t.Helper()
	if got != want {
		t.Errorf("%s: %s, want %s", what, brief(got), brief(want))
	}
}

// list: texts as bytes.
func list(l ...string) [][]byte {
	var out [][]byte
	for _, s := range l {
		out = append(out, []byte(s))
	}
	return out
}

// between: ranges of pairs of numbers.
func between(n ...int) []api.Range {
	var l []api.Range
	for i := 0; i+1 < len(n); i += 2 {
		l = append(l, api.Range{Lo: n[i], Hi: n[i+1]})
	}
	return l
}

// everyText: those of at most so many of some bytes.
func everyText(letters string, most int) []string {
	all := []string{""}
	for from, n := 0, 0; n < most; n++ {
		end := len(all)
		for _, s := range all[from:end] {
			for i := range len(letters) {
				all = append(all, s+letters[i:i+1])
			}
		}
		from = end
	}
	return all
}

// blanks: so many of them.
func blanks(n int) string { return strings.Repeat(" ", n) }
