package page

import (
	"bytes"
	"slices"
	"strconv"

	"tinsel/api"
)

const (
	side   = 1000  // columns, and rows, that are drawn on
	blanks = " \t" // what parts words, and what lines do not end with
)

// Draw: items as lines.
func Draw(l []api.Item) ([]byte, api.Errno) {
	var rows [][]byte
	for _, x := range l {
		at := place(x.At)
		column, row := int(real(at)), int(imag(at))
		if column < 0 || column >= side || row < 0 || row >= side {
			return nil, api.EINVAL
		}
		for len(rows) <= row {
			rows = append(rows, nil)
		}
		rows[row] = written(rows[row], column, x.Text)
	}
	var out []byte
	for _, row := range rows {
		out = append(out, bytes.TrimRight(row, blanks)...)
		out = append(out, '\n')
	}
	return out, api.OK
}

// written: a row with a text over what stands there.
func written(row []byte, column int, s string) []byte {
	for len(row) < column {
		row = append(row, ' ')
	}
	n := copy(row[column:], s)
	return append(row, s[n:]...)
}

// Read: the words of lines with their places.
func Read(b []byte) []api.Item {
	var out []api.Item
	at := complex128(0)
	for len(b) > 0 {
		n := wordEnd(b)
		if n > 0 {
			out = append(out, api.Item{Text: string(b[:n]), At: at})
		} else {
			n = 1 // a blank, or a line feed
		}
		for _, c := range b[:n] {
			at = step(at, c)
		}
		b = b[n:]
	}
	return out
}

// wordEnd: where the word ends that b begins with; 0: it begins with none.
func wordEnd(b []byte) int {
	if n := bytes.IndexAny(b, blanks+"\n"); n >= 0 {
		return n
	}
	return len(b)
}

// The numbers that Pages takes.
const (
	headLines  = 2 // the title's, and an empty one
	minLength  = headLines + 1
	maxLength  = 1000
	maxColumns = 100
)

// Pages: lines in pages with a header.
func Pages(b []byte, title string, length, columns, width int) ([]byte, api.Errno) {
	if length < minLength || length > maxLength || columns < 1 || columns > maxColumns || width < columns || width > maxWidth {
		return nil, api.EINVAL
	}
	lines := slices.Collect(bytes.Lines(b))
	rows, wide := length-headLines, width/columns
	var out []byte
	number := 0
	for some := range slices.Chunk(lines, rows*columns) {
		number++
		sheet := []api.Item{{Text: title + " Page " + strconv.Itoa(number)}}
		for i, line := range some {
			at := complex(float64(i/rows*wide), float64(headLines+i%rows))
			sheet = append(sheet, api.Item{Text: cut(line, wide-1), At: at})
		}
		page, _ := Draw(sheet) // its places are within the side, as width and length are
		out = append(out, page...)
	}
	return out, api.OK
}

// cut: the beginning of a line without its line feed.
func cut(line []byte, most int) string {
	line = bytes.TrimSuffix(line, []byte("\n"))
	return string(line[:min(len(line), most)])
}
