package page_test

import (
	"fmt"
	"math/rand"
	"regexp"
	"slices"
	"strings"
	"testing"

	"tinsel/api"
	"tinsel/page"
)

// A model of the calls, told another way: in ints, by what each line or cell is, not by what one does to the next.

// modelMove: where a text leads, by its last line's end and what stands behind it.
func modelMove(column, row int, s string) (int, int) {
	row += strings.Count(s, "\n")
	if end := strings.LastIndexAny(s, "\n\r"); end >= 0 {
		column, s = 0, s[end+1:]
	}
	for s != "" {
		switch plain := strings.IndexAny(s, "\t\b"); {
		case plain < 0:
			return column + len(s), row
		case plain > 0:
			column, s = column+plain, s[plain:]
		case s[0] == '\t':
			column++
			for column%8 != 0 {
				column++
			}
			s = s[1:]
		default:
			if column > 0 {
				column--
			}
			s = s[1:]
		}
	}
	return column, row
}

// modelGrid: texts by columns of a table, told by its columns; and where the last one ends.
func modelGrid(table [][]string, gap int) (map[string]int, int) {
	begins, at, end := map[string]int{}, 0, 0
	for _, column := range table {
		wide := 0
		for _, x := range column {
			_, text, _ := strings.Cut(x, "#")
			wide = max(wide, len(text))
			begins[x] = at
		}
		end = at + wide
		at = end + gap
	}
	return begins, end
}

// modelColumns: all tables are made, of each number of rows (or, across, of columns); the best one that fits counts.
func modelColumns(l []string, width, gap int, across bool) string {
	var named []string // told apart, if they are the same
	for i, s := range l {
		named = append(named, fmt.Sprintf("%d#%s", i, s))
	}
	best := ""
	for n := len(l); n > 0; n-- {
		rows := slices.Collect(slices.Chunk(named, n)) // or columns
		if across {
			rows = turned(rows)
		}
		begins, end := modelGrid(rows, gap)
		alone := across && n == 1 || !across && n == len(l)
		if end > width && !alone || across && best != "" {
			continue
		}
		var out []string
		for i, x := range named {
			row := i % n
			if across {
				row = i / n
			}
			out = append(out, fmt.Sprintf("%s %d,%d", l[i], begins[x], row))
		}
		best = strings.Join(out, "|")
	}
	return best
}

// turned: a table's columns as rows.
func turned(rows [][]string) [][]string {
	var out [][]string
	for _, row := range rows {
		for i, x := range row {
			if i == len(out) {
				out = append(out, nil)
			}
			out[i] = append(out[i], x)
		}
	}
	return out
}

// cover: what each cell holds, the last text that is written there counting.
func cover(l []api.Item) map[[2]int]byte {
	cells := map[[2]int]byte{}
	for _, x := range l {
		for i := range len(x.Text) {
			cells[[2]int{int(imag(x.At)), int(real(x.At)) + i}] = x.Text[i]
		}
	}
	return cells
}

// endBlanks are those at the end of a row's text, which may have line feeds.
var endBlanks = regexp.MustCompile(`(?s)^(.*?)[ \t]*$`)

// modelDraw: row by row, cell by cell.
func modelDraw(l []api.Item) string {
	cells, rows, columns := cover(l), 0, 0
	for _, x := range l {
		if !(real(x.At) >= 0 && real(x.At) <= 999 && imag(x.At) >= 0 && imag(x.At) <= 999) {
			return refused
		}
		rows, columns = max(rows, int(imag(x.At))+1), max(columns, int(real(x.At))+len(x.Text))
	}
	var out []byte
	for row := range rows {
		var line []byte
		for column := range columns {
			c, ok := cells[[2]int{row, column}]
			if !ok {
				c = ' '
			}
			line = append(line, c)
		}
		for len(line) > 0 && strings.Contains(" \t", string(line[len(line)-1:])) {
			line = line[:len(line)-1]
		}
		out = append(append(out, line...), '\n')
	}
	return string(out)
}

// words are what blanks part.
var words = regexp.MustCompile(`[^ \t]+`)

// modelRead: each line's words, with the columns that what stands ahead of them in the line leads to.
func modelRead(b string) string {
	var out []string
	for row, line := range strings.Split(b, "\n") {
		for _, at := range words.FindAllStringIndex(line, -1) {
			column, _ := modelMove(0, 0, line[:at[0]])
			out = append(out, fmt.Sprintf("%s %d,%d", line[at[0]:at[1]], column, row))
		}
	}
	return strings.Join(out, "|")
}

// modelPages: each row of each page, by the numbers of the lines that stand in it.
func modelPages(b, title string, length, columns, width int) string {
	lines := strings.Split(strings.TrimSuffix(b, "\n"), "\n")
	if b == "" {
		lines = nil
	}
	rows, wide, out := length-2, width/columns, ""
	for first, number := 0, 1; first < len(lines); first, number = first+rows*columns, number+1 {
		out += fmt.Sprintf("%s Page %d\n\n", title, number)
		for row := range min(rows, len(lines)-first) {
			line := ""
			for column := range columns {
				if n := first + column*rows + row; n < len(lines) {
					s := lines[n]
					line += s[:min(len(s), wide-1)]
				}
				line += blanks((column+1)*wide - len(line))
			}
			out += endBlanks.FindStringSubmatch(line)[1] + "\n"
		}
	}
	return out
}

// modelBounds: the least and the greatest numbers of what is covered.
func modelBounds(l []api.Item) string {
	var columns, ends, rows []int
	for _, x := range l {
		column := int(real(x.At))
		columns, ends, rows = append(columns, column), append(ends, column), append(rows, int(imag(x.At)))
		if len(x.Text) > 0 {
			ends = append(ends, column+len(x.Text)-1)
		}
	}
	if len(l) == 0 {
		return "0,0 0,0"
	}
	return fmt.Sprintf("%d,%d %d,%d", slices.Min(columns), slices.Min(rows), slices.Max(ends), slices.Max(rows))
}

// P17.1: all short texts of bytes that move, from places near 0.
func TestModelMove(t *testing.T) {
	for _, s := range everyText("ab\n\r\b\t", 5) {
		for _, column := range []int{-17, -8, -1, 0, 6, 7, 8, 21} {
			for _, row := range []int{-2, 0, 5} {
				x, y := modelMove(column, row, s)
				got := page.Move(complex(float64(column), float64(row)), s)
				if want := complex(float64(x), float64(y)); got != want {
					t.Fatalf("Move(%d %d, %q): %v, want %v", column, row, s, got, want)
				}
			}
		}
	}
}

// P17.2: short lists of short texts, by all small widths and gaps.
func TestModelColumns(t *testing.T) {
	for _, l := range everyList(6, "", "a", "bbb") {
		texts := strings.Join(l, "|")
		if len(l) > 0 && texts == "" {
			continue // told as no texts
		}
		for _, width := range []int{1, 2, 3, 5, 6, 7, 10, 15} {
			for gap := range 3 {
				told(t, fmt.Sprintf("Columns(%s, %d, %d)", texts, width, gap), grid(page.Columns, texts, width, gap), modelColumns(l, width, gap, false))
				told(t, fmt.Sprintf("Across(%s, %d, %d)", texts, width, gap), grid(page.Across, texts, width, gap), modelColumns(l, width, gap, true))
			}
		}
		if t.Failed() {
			return
		}
	}
}

// P17.2: lists that are drawn.
func TestModelColumnsOfMany(t *testing.T) {
	d := rand.New(rand.NewSource(17))
	for range 3000 {
		var l []string
		for range 1 + d.Intn(40) {
			l = append(l, strings.Repeat("x", 1+d.Intn(1+d.Intn(30))))
		}
		texts, width, gap := strings.Join(l, "|"), 1+d.Intn(1+d.Intn(400)), d.Intn(1+d.Intn(20))
		told(t, fmt.Sprintf("Columns(%s, %d, %d)", texts, width, gap), grid(page.Columns, texts, width, gap), modelColumns(l, width, gap, false))
		told(t, fmt.Sprintf("Across(%s, %d, %d)", texts, width, gap), grid(page.Across, texts, width, gap), modelColumns(l, width, gap, true))
		if t.Failed() {
			return
		}
	}
}

// oneOf: one of some.
func oneOf[E any](d *rand.Rand, of ...E) E { return of[d.Intn(len(of))] }

// drawnText: a text of a few bytes.
func drawnText(d *rand.Rand) string {
	s := ""
	for range d.Intn(8) {
		s += oneOf(d, "a", "b", "cd", " ", "  ", "\t", "\x00", "\xff", "\u00e4", "\b", "\r", "\n", "_")
	}
	return s
}

// drawnItems: some items, most of them where Draw takes them.
func drawnItems(d *rand.Rand, side int) []api.Item {
	var l []api.Item
	for range d.Intn(10) {
		l = append(l, item(drawnText(d), complex(float64(d.Intn(side)), float64(d.Intn(side)))))
	}
	if len(l) > 0 && d.Intn(20) == 0 {
		l[d.Intn(len(l))].At = oneOf[complex128](d, -1, -1i, 1000, 1000i, far-100, far*1i)
	}
	return l
}

// P17.4, P17.3: items that are drawn, side by side and one over the other.
func TestModelOfItems(t *testing.T) {
	d := rand.New(rand.NewSource(18))
	for i := range 30000 {
		l := drawnItems(d, []int{3, 8, 20}[i%3])
		if got, want := bytesOr(page.Draw(l)), modelDraw(l); got != want {
			t.Fatalf("Draw %q: %q, want %q", laid(l), got, want)
		}
		by := complex(float64(d.Intn(40)-20), float64(d.Intn(40)-20))
		if got, want := bounds(l), modelBounds(l); got != want {
			t.Fatalf("Bounds of %q: %q, want %q", laid(l), got, want)
		}
		shifted := page.Shift(l, by)
		for j, x := range l {
			if want := item(x.Text, sum(x.At, by)); shifted[j] != want {
				t.Fatalf("Shift(%v, %v): %v, want %v", x, by, shifted[j], want)
			}
		}
		if got, want := bounds(shifted), modelBounds(shifted); got != want {
			t.Fatalf("Bounds of %q: %q, want %q", laid(shifted), got, want)
		}
	}
}

// P17.4: all short texts of what Read tells apart, and longer ones that are drawn.
func TestModelRead(t *testing.T) {
	texts := append(everyText("a \t\n", 7), everyText("a \b\r\n", 5)...)
	d := rand.New(rand.NewSource(19))
	for range 20000 {
		texts = append(texts, drawnText(d)+drawnText(d)+drawnText(d)+drawnText(d))
	}
	for _, b := range texts {
		if got, want := laid(page.Read([]byte(b))), modelRead(b); got != want {
			t.Fatalf("Read(%q): %q, want %q", b, got, want)
		}
	}
}

// P17.5: texts that are drawn, by pages of many sizes.
func TestModelPages(t *testing.T) {
	d := rand.New(rand.NewSource(20))
	for range 20000 {
		var b strings.Builder
		for range d.Intn(30) {
			b.WriteString(strings.Repeat(drawnText(d), d.Intn(4)))
			b.WriteString(oneOf(d, "\n", "\n", "\n", "\n\n", ""))
		}
		columns := 1 + d.Intn(1+d.Intn(10))
		width := columns + d.Intn(1+d.Intn(60))
		length := 3 + d.Intn(1+d.Intn(12))
		title := oneOf(d, "", "T", "a title", drawnText(d))
		got, want := paged(b.String(), title, length, columns, width), modelPages(b.String(), title, length, columns, width)
		if got != want {
			t.Fatalf("Pages(%q, %q, %d, %d, %d): %q, want %q", b.String(), title, length, columns, width, got, want)
		}
	}
}
