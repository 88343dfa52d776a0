package text

import "slices"

// Paste: lines of several texts beside each other.
func Paste(l [][]byte, delims string) []byte {
	columns, rows := make([][][]byte, len(l)), 0
	for i, b := range l {
		columns[i] = texts(b)
		rows = max(rows, len(columns[i]))
	}
	var out []byte
	for n := range rows {
		if delims == "" { // a text at its end leaves no trace then, and is not asked again
			columns = slices.DeleteFunc(columns, func(c [][]byte) bool { return len(c) <= n })
		}
		out = joined(out, row(columns, n), delims)
	}
	return out
}

// row: the n-th lines; empty, where there is none.
func row(columns [][][]byte, n int) [][]byte {
	l := make([][]byte, len(columns))
	for i, column := range columns {
		if n < len(column) {
			l[i] = column[n]
		}
	}
	return l
}

// Serial: the lines of each text in one line.
func Serial(l [][]byte, delims string) []byte {
	var out []byte
	for _, b := range l {
		out = joined(out, texts(b), delims)
	}
	return out
}

// joined: a line of these, parted by the bytes of delims in their turn.
func joined(out []byte, l [][]byte, delims string) []byte {
	for i, text := range l {
		if i > 0 && delims != "" {
			out = append(out, delims[(i-1)%len(delims)])
		}
		out = append(out, text...)
	}
	return append(out, '\n')
}
