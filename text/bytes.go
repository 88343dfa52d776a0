package text

import (
	"bytes"
	"slices"

	"tinsel/api"
)

// Of Od: bytes in a line, and digits of a place.
const (
	odBytes  = 16
	odDigits = 7
)

// Cmp: the first byte and line in which two differ; 0: none.
func Cmp(a, b []byte) (int, int) {
	at, both := 0, min(len(a), len(b))
	for at < both && a[at] == b[at] {
		at++
	}
	if at == len(a) && at == len(b) {
		return 0, 0
	}
	return at + 1, bytes.Count(a[:at], []byte{'\n'}) + 1
}

// Od: bytes in octal, decimal or hexadecimal.
func Od(b []byte, base int) ([]byte, api.Errno) {
	pad, places := byte('0'), 3
	switch base {
	case 8:
	case 10:
		pad = ' '
	case 16:
		places = 2
	default:
		return nil, api.EINVAL
	}
	var out []byte
	at := 0
	for row := range slices.Chunk(b, odBytes) {
		out = padded(out, at, 8, '0', odDigits)
		for _, c := range row {
			out = padded(append(out, ' '), int(c), base, pad, places)
		}
		out = append(out, '\n')
		at += len(row)
	}
	return append(padded(out, at, 8, '0', odDigits), '\n'), api.OK
}
