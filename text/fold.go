package text

import (
	"slices"

	"tinsel/api"
)

// folder breaks lines.
type folder struct {
	width int
	words bool // behind a blank, if there is one
}

// Fold: lines no longer than a width.
func Fold(b []byte, width int, words bool) ([]byte, api.Errno) {
	if width < 1 {
		return nil, api.EINVAL
	}
	f := folder{width, words}
	return rewrite(b, f.line), api.OK
}

// line: one in pieces.
func (f folder) line(out, text []byte) []byte {
	begin, column := len(out), 0
	for _, c := range text {
		for column > 0 && behind(column, c) > f.width {
			begin = f.place(out, begin)
			out = slices.Insert(out, begin, '\n')
			begin++
			column = width(out[begin:])
		}
		out = append(out, c)
		column = behind(column, c)
	}
	return out
}

// place: where the piece that begins at a place of out is broken: behind its last blank, or at its end.
func (f folder) place(out []byte, begin int) int {
	for i := len(out); f.words && i > begin; i-- {
		if isBlank(out[i-1]) {
			return i
		}
	}
	return len(out)
}

// width: the column behind a piece.
func width(piece []byte) int {
	column := 0
	for _, c := range piece {
		column = behind(column, c)
	}
	return column
}

// behind: the column behind a byte at a column.
func behind(column int, c byte) int {
	switch c {
	case '\t':
		return column - column%8 + 8
	case '\b':
		return max(column-1, 0)
	case '\r':
		return 0
	}
	return column + 1
}
