package page_test

import (
	"fmt"
	"math"
	"strconv"
	"strings"
	"testing"

	"tinsel/api"
	"tinsel/page"
)

// The calls, with the signatures that the chapter lists.
var (
	_ func(complex128, string) complex128                     = page.Move
	_ func([]string, int, int) ([]api.Item, api.Errno)        = page.Columns
	_ func([]string, int, int) ([]api.Item, api.Errno)        = page.Across
	_ func([]api.Item) (complex128, complex128)               = page.Bounds
	_ func([]api.Item, complex128) []api.Item                 = page.Shift
	_ func([]api.Item, int) []api.Item                        = page.Turn
	_ func(complex128, complex128) int                        = page.Distance
	_ func([]api.Item) ([]byte, api.Errno)                    = page.Draw
	_ func([]byte) []api.Item                                 = page.Read
	_ func([]byte, string, int, int, int) ([]byte, api.Errno) = page.Pages
)

// far: the greatest size of a column or a row.
const far = 1 << 30

// Ints at their ends, and near them.
var farInts = []int{math.MinInt, math.MinInt + 1, math.MinInt32, math.MaxInt32, math.MaxInt - 1, math.MaxInt}

// noParts: columns or rows that no place has.
func noParts() []float64 {
	return []float64{
		math.NaN(), math.Inf(1), math.Inf(-1), 0.5, -0.5, 1.5, 999.25, 1e-300, -math.SmallestNonzeroFloat64, far - 0.5, far + 0.5, -far - 0.5, far + 1, -far - 1, 2 * far, 1 << 31, 1 << 62, -1 << 63, 1 << 63, 1e300, math.MaxFloat64, -math.MaxFloat64,
	}
}

// noPlaces: those that may not be, by one part or by both.
func noPlaces() []complex128 {
	var l []complex128
	for i, x := range noParts() {
		l = append(l, complex(x, 0), complex(0, x), complex(x, 3), complex(-4, x), complex(x, noParts()[(i*7+3)%len(noParts())]), complex(x, x))
	}
	return l
}

// farPlaces: the farthest ones that may be, and some near them.
var farPlaces = []complex128{far, -far, far * 1i, -far * 1i, far + far*1i, -far - far*1i, far - far*1i, -far + far*1i, far - 1, 1 - far, (far - 1) * 1i, (1 - far) * 1i, (far - 1) - (far-1)*1i}

// part: a column or a row as text, a nought below 0 as any other.
func part(x float64) string { return strconv.FormatFloat(x+0, 'f', -1, 64) }

// spot: a place as text.
func spot(at complex128) string { return part(real(at)) + "," + part(imag(at)) }

// laid: items as text, each with its column and row, parted by bars.
func laid(l []api.Item) string {
	var out []string
	for _, x := range l {
		out = append(out, x.Text+" "+spot(x.At))
	}
	return strings.Join(out, "|")
}

// item: a text at a place.
func item(text string, at complex128) api.Item { return api.Item{Text: text, At: at} }

// items: those of a text as laid tells it.
func items(s string) []api.Item {
	var out []api.Item
	for _, one := range apart(s) {
		space := strings.LastIndex(one, " ")
		column, row, _ := strings.Cut(one[space+1:], ",")
		x, _ := strconv.ParseFloat(column, 64)
		y, _ := strconv.ParseFloat(row, 64)
		out = append(out, item(one[:space], complex(x, y)))
	}
	return out
}

// apart: the texts of one, parted by bars; of the empty one none.
func apart(s string) []string {
	if s == "" {
		return nil
	}
	return strings.Split(s, "|")
}

// brief: a text in quotes, or how it begins and how long it is.
func brief(s string) string {
	if len(s) <= 300 {
		return fmt.Sprintf("%q", s)
	}
	return fmt.Sprintf("%q.. (%d bytes)", s[:300], len(s))
}

// told: is it what a call should tell?
func told(t *testing.T, what, got, want string) {
	t.Helper()
	if got != want {
		t.Errorf("%s: %s, want %s", what, brief(got), brief(want))
	}
}

// refused: what a call tells that answers EINVAL, and nothing beside it.
const refused = "0, error 22"

// grid: what Columns or Across tells of texts that are parted by bars.
func grid(call func([]string, int, int) ([]api.Item, api.Errno), texts string, width, gap int) string {
	l, e := call(apart(texts), width, gap)
	if e != api.OK {
		return fmt.Sprintf("%d, error %d", len(l), int(e))
	}
	return laid(l)
}

// bytesOr: bytes as text, or what stands beside an error.
func bytesOr(b []byte, e api.Errno) string {
	if e != api.OK {
		return fmt.Sprintf("%d, error %d", len(b), int(e))
	}
	return string(b)
}

// drawn: what Draw tells of items, told as laid tells them.
func drawn(s string) string { return bytesOr(page.Draw(items(s))) }

// paged: what Pages tells.
func paged(b, title string, length, columns, width int) string {
	return bytesOr(page.Pages([]byte(b), title, length, columns, width))
}

// bounds: what Bounds tells, as text.
func bounds(l []api.Item) string {
	least, most := page.Bounds(l)
	return spot(least) + " " + spot(most)
}

// everyText: those of at most so many of some bytes.
func everyText(letters string, most int) []string {
	all := []string{""}
	for from, n := 0, 0; n < most; n++ {
		end := len(all)
		for _, s := range all[from:end] {
			for i := range len(letters) {
				all = append(all, s+letters[i:i+1])
			}
		}
		from = end
	}
	return all
}

// blanks: so many of them.
func blanks(n int) string { return strings.Repeat(" ", n) }

// repeated: a text so often, parted by bars.
func repeated(s string, n int) string { return strings.TrimSuffix(strings.Repeat(s+"|", n), "|") }

// everyList: those of at most so many of some texts.
func everyList(most int, some ...string) [][]string {
	all := [][]string{nil}
	for from, n := 0, 0; n < most; n++ {
		end := len(all)
		for _, l := range all[from:end] {
			for _, s := range some {
				all = append(all, append(l[:len(l):len(l)], s))
			}
		}
		from = end
	}
	return all
}
