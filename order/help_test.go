package order_test

import (
	"fmt"
	"math"
	"strings"
	"testing"

	"tinsel/api"
	"tinsel/order"
)

// The calls, with the signatures that the chapter lists.
var (
	_ func(string) (api.Key, api.Errno)                                    = order.ParseKey
	_ func([]byte, api.Key, byte) []byte                                   = order.Part
	_ func([]byte) (bool, []byte, []byte)                                  = order.Number
	_ func(a, b []byte, o api.Order) int                                   = order.Compare
	_ func([][]byte, api.Order) [][]byte                                   = order.Sort
	_ func([][]byte, api.Order) int                                        = order.Sorted
	_ func(api.Order, ...[][]byte) [][]byte                                = order.Merge
	_ func([][]byte, int, int, bool) ([][]byte, []int)                     = order.Uniq
	_ func(a, b [][]byte, hide int) [][]byte                               = order.Comm
	_ func(a, b [][]byte, fa, fb int, s byte, n int) ([][]byte, api.Errno) = order.Join
)

// The flags that count in a key, and all that have a name.
const (
	keyFlags = api.KeyNumeric | api.KeyReverse | api.KeyFold | api.KeyBlanks | api.KeyDict
	allFlags = keyFlags | api.SortUnique | api.SortStable
)

// Ints at their ends, and near them.
var farInts = []int{math.MinInt, math.MinInt + 1, math.MinInt32, math.MaxInt32, math.MaxInt - 1, math.MaxInt}

// list: texts as lines.
func list(l ...string) [][]byte {
	var out [][]byte
	for _, s := range l {
		out = append(out, []byte(s))
	}
	return out
}

// apart: a text's lines, parted by bars.
func apart(s string) [][]byte {
	if s == "" {
		return nil
	}
	return list(strings.Split(s, "|")...)
}

// whole: lines as one text, parted by bars; of no lines none.
func whole(l [][]byte) string {
	texts := make([]string, len(l))
	for i, x := range l {
		texts[i] = string(x)
	}
	return strings.Join(texts, "|")
}

// brief: a text in quotes, or how it begins and how long it is.
func brief(s string) string {
	if len(s) <= 300 {
		return fmt.Sprintf("%q", s)
	}
	return fmt.Sprintf("%q.. (%d bytes)", s[:300], len(s))
}

// told: is it what a call should tell?
func told(t *testing.T, what, got, want string) {
	t.Helper()
	if got != want {
		t.Errorf("%s: %s, want %s", what, brief(got), brief(want))
	}
}

// same: are they told alike?
func same(t *testing.T, what string, got, want any) {
	t.Helper()
	told(t, what, fmt.Sprintf("%q", got), fmt.Sprintf("%q", want))
}

// by: an order of flags, without keys.
func by(flags int) api.Order { return api.Order{Flags: flags} }

// key: that of a text.
func key(t *testing.T, s string) api.Key {
	t.Helper()
	k, e := order.ParseKey(s)
	if e != api.OK {
		t.Fatalf("ParseKey(%q): %d", s, int(e))
	}
	return k
}

// keyed: an order of keys, told by their texts.
func keyed(t *testing.T, sep byte, flags int, texts ...string) api.Order {
	t.Helper()
	o := api.Order{Sep: sep, Flags: flags}
	for _, s := range texts {
		o.Keys = append(o.Keys, key(t, s))
	}
	return o
}

// everyText: those of at most so many of some bytes.
func everyText(letters string, most int) []string {
	all := []string{""}
	for from, n := 0, 0; n < most; n++ {
		end := len(all)
		for _, s := range all[from:end] {
			for i := range len(letters) {
				all = append(all, s+letters[i:i+1])
			}
		}
		from = end
	}
	return all
}

// everyList: those of at most so many of some lines.
func everyList(most int, lines ...string) [][][]byte {
	all := [][][]byte{nil}
	for from, n := 0, 0; n < most; n++ {
		end := len(all)
		for _, l := range all[from:end] {
			for _, s := range lines {
				all = append(all, append(append([][]byte(nil), l...), []byte(s)))
			}
		}
		from = end
	}
	return all
}
