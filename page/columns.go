package page

import "tinsel/api"

// The greatest numbers that Columns and Across take.
const (
	maxWidth = 1000
	maxGap   = 1000
	maxTexts = 1000
)

// cell tells the numbers of the column and of the row that a text stands in. As the texts are gone through, a column in
// which none has stood yet is always the next one.
type cell func(i int) (column, row int)

// Columns: texts in columns, one below the other, as few rows as fit.
func Columns(l []string, width, gap int) ([]api.Item, api.Errno) {
	if !canLay(l, width, gap) {
		return nil, api.EINVAL
	}
	for rows := 1; ; rows++ {
		down := func(i int) (int, int) { return i / rows, i % rows }
		begins, end := edges(l, gap, down)
		if end <= width || rows >= len(l) {
			return lay(l, begins, down), api.OK
		}
	}
}

// Across: texts in rows, one beside the other.
func Across(l []string, width, gap int) ([]api.Item, api.Errno) {
	if !canLay(l, width, gap) {
		return nil, api.EINVAL
	}
	for many := len(l); ; many-- {
		across := func(i int) (int, int) { return i % many, i / many }
		begins, end := edges(l, gap, across)
		if end <= width || many <= 1 {
			return lay(l, begins, across), api.OK
		}
	}
}

// canLay: may texts be asked for so?
func canLay(l []string, width, gap int) bool {
	return width >= 1 && width <= maxWidth && gap >= 0 && gap <= maxGap && len(l) <= maxTexts
}

// edges: where each column of a grid begins, and where the last one ends.
func edges(l []string, gap int, stands cell) ([]int, int) {
	var widths []int
	for i, s := range l {
		column, _ := stands(i)
		if column == len(widths) {
			widths = append(widths, 0)
		}
		widths[column] = max(widths[column], len(s))
	}
	begins := make([]int, len(widths))
	end := 0
	for i, width := range widths {
		if i > 0 {
			begins[i] = end + gap
		}
		end = begins[i] + width
	}
	return begins, end
}

// lay: the texts in the grid whose columns begin there.
func lay(l []string, begins []int, stands cell) []api.Item {
	out := make([]api.Item, len(l))
	for i, s := range l {
		column, row := stands(i)
		out[i] = api.Item{Text: s, At: complex(float64(begins[column]), float64(row))}
	}
	return out
}
