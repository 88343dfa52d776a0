package text

import (
	"bytes"

	"tinsel/api"
	"tinsel/number"
)

// cutter tells which numbers of a line are chosen.
type cutter struct {
	ranges []api.Range
	chosen []bool // of the numbers from 1 on, as far as a line reached: each is looked up in the ranges but once
	delim  byte
	only   bool
}

// CutBytes: the bytes of ranges of each line.
func CutBytes(b []byte, l []api.Range) []byte {
	c := &cutter{ranges: l}
	return each(b, nil, c.bytes)
}

// CutFields: the fields of ranges of each line.
func CutFields(b []byte, l []api.Range, delim byte, only bool) []byte {
	c := &cutter{ranges: l, delim: delim, only: only}
	return each(b, nil, c.fields)
}

// has: is the number chosen?
func (c *cutter) has(n int) bool {
	for len(c.chosen) < n {
		c.chosen = append(c.chosen, number.Has(c.ranges, len(c.chosen)+1))
	}
	return c.chosen[n-1]
}

// bytes: those of a line that are chosen.
func (c *cutter) bytes(out []byte, x line) []byte {
	for i := range x.bytes {
		if c.has(i + 1) {
			out = append(out, x.bytes[i])
		}
	}
	return append(out, '\n')
}

// fields: those of a line that are chosen; of a line that has no delim all of it, or nothing.
func (c *cutter) fields(out []byte, x line) []byte {
	if bytes.IndexByte(x.bytes, c.delim) < 0 {
		if c.only && c.delim != '\n' {
			return out
		}
		return append(append(out, x.bytes...), '\n')
	}
	n, told := 0, 0
	for field := range bytes.SplitSeq(x.bytes, []byte{c.delim}) {
		n++
		if !c.has(n) {
			continue
		}
		if told > 0 {
			out = append(out, c.delim)
		}
		out = append(out, field...)
		told++
	}
	return append(out, '\n')
}
