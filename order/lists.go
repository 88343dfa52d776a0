package order

import (
	"bytes"
	"slices"

	"tinsel/api"
)

// Uniq: of each run of lines that are the same the first one, and how many there are.
func Uniq(l [][]byte, fields, chars int, fold bool) ([][]byte, []int) {
	compare := bySigns(false, fold)
	var out [][]byte
	var counts []int
	for i, line := range l {
		if i > 0 && compare(left(line, fields, chars), left(l[i-1], fields, chars)) == 0 {
			counts[len(counts)-1]++
			continue
		}
		out, counts = append(out, bytes.Clone(line)), append(counts, 1)
	}
	return out, counts
}

// left: what of a line stands behind so many fields, and then so many bytes.
func left(line []byte, fields, chars int) []byte {
	for ; fields > 0 && len(line) > 0; fields-- {
		line = line[fieldEnd(line, 0, 0):]
	}
	return line[min(max(chars, 0), len(line)):]
}

// The columns of Comm, and the bits that hide them.
const (
	columnA    = 1
	columnB    = 2
	columnBoth = 4
)

// Comm: the lines of a alone, of b alone, and of both, in three columns.
func Comm(a, b [][]byte, hide int) [][]byte {
	var out [][]byte
	tell := func(line []byte, column int) {
		if hide&column != 0 {
			return
		}
		var tabs []byte
		for c := columnA; c < column; c *= 2 {
			if hide&c == 0 {
				tabs = append(tabs, '\t')
			}
		}
		out = append(out, slices.Concat(tabs, line))
	}
	for len(a)+len(b) > 0 {
		switch n := first(a, b, bytes.Compare); {
		case n < 0:
			tell(a[0], columnA)
			a = a[1:]
		case n > 0:
			tell(b[0], columnB)
			b = b[1:]
		default:
			tell(a[0], columnBoth)
			a, b = a[1:], b[1:]
		}
	}
	return out
}

// The bits of Join's lines that are told alone.
const (
	aloneA = 1
	aloneB = 2
)

// row is a line by its fields: the one that it is joined by, and the others.
type row struct {
	field  []byte
	others [][]byte
}

// Join: the lines of two lists that have a field in common, in one.
func Join(a, b [][]byte, fa, fb int, sep byte, alone int) ([][]byte, api.Errno) {
	if fa < 1 || fb < 1 {
		return nil, api.EINVAL
	}
	var out [][]byte
	tell := func(x row, more [][]byte) { out = append(out, x.line(more, sep)) }
	ra, rb := rows(a, fa, sep), rows(b, fb, sep)
	for len(ra)+len(rb) > 0 {
		switch n := first(ra, rb, byField); {
		case n < 0:
			if alone&aloneA != 0 {
				tell(ra[0], nil)
			}
			ra = ra[1:]
		case n > 0:
			if alone&aloneB != 0 {
				tell(rb[0], nil)
			}
			rb = rb[1:]
		default:
			na, nb := run(ra), run(rb)
			for _, x := range ra[:na] {
				for _, y := range rb[:nb] {
					tell(x, y.others)
				}
			}
			ra, rb = ra[na:], rb[nb:]
		}
	}
	return out, api.OK
}

// byField: rows by what they are joined by.
func byField(x, y row) int { return bytes.Compare(x.field, y.field) }

// run: how many rows at the beginning have the first one's field.
func run(l []row) int {
	n := 1
	for n < len(l) && byField(l[n], l[0]) == 0 {
		n++
	}
	return n
}

// rows: lines by their fields, the n-th one apart; it is empty, if a line has not so many.
func rows(l [][]byte, n int, sep byte) []row {
	out := make([]row, len(l))
	for i, line := range l {
		fields := fieldsOf(line, sep)
		if n <= len(fields) {
			out[i].field = fields[n-1]
			fields = slices.Delete(fields, n-1, n)
		}
		out[i].others = fields
	}
	return out
}

// fieldsOf: what stands between seps; of sep 0 the runs of bytes that are no blanks.
func fieldsOf(line []byte, sep byte) [][]byte {
	if sep == 0 {
		return bytes.FieldsFunc(line, func(r rune) bool { return r == ' ' || r == '\t' })
	}
	return bytes.Split(line, []byte{sep})
}

// line: the field, the others, and more of them.
func (x row) line(more [][]byte, sep byte) []byte {
	if sep == 0 {
		sep = ' '
	}
	return bytes.Join(slices.Concat([][]byte{x.field}, x.others, more), []byte{sep})
}
