package text

import (
	"bytes"

	"tinsel/api"
)

// maxPieces: so many names from aa to zz there are.
const maxPieces = 26 * 26

// ends: the place where the text begins, then the one behind each line.
func ends(b []byte) []int {
	return each(b, []int{0}, func(l []int, x line) []int { return append(l, l[len(l)-1]+x.size()) })
}

// Head: the first lines; of n below 0 all but so many.
func Head(b []byte, n int) []byte {
	l := ends(b)
	return bytes.Clone(b[:l[first(n, len(l)-1)]])
}

// HeadBytes: the first bytes, likewise.
func HeadBytes(b []byte, n int) []byte { return bytes.Clone(b[:first(n, len(b))]) }

// first: how many of all are the first n; of n below 0 all but the last -n.
func first(n, all int) int {
	if n < 0 {
		return max(all+n, 0) // n may be the least int, of which there is no -n
	}
	return min(n, all)
}

// Tail: the last lines; from: from the n-th line on.
func Tail(b []byte, n int, from bool) []byte {
	l := ends(b)
	return bytes.Clone(b[l[ahead(n, len(l)-1, from)]:])
}

// TailBytes: the last bytes, likewise.
func TailBytes(b []byte, n int, from bool) []byte { return bytes.Clone(b[ahead(n, len(b), from):]) }

// ahead: how many of all stand ahead of the last n, or of the n-th one.
func ahead(n, all int, from bool) int {
	if from {
		return min(max(n, 1)-1, all)
	}
	return all - min(max(n, 0), all)
}

// Tac: the lines, the last one first.
func Tac(b []byte) []byte {
	out := make([]byte, 0, len(b))
	l := ends(b)
	for i := len(l) - 1; i > 0; i-- {
		out = append(out, b[l[i-1]:l[i]]...)
	}
	return out
}

// Split: pieces of so many lines, or bytes, with their names.
func Split(b []byte, lines, bytes int, prefix string) ([]string, [][]byte, api.Errno) {
	switch {
	case lines > 0 && bytes == 0:
		l := ends(b)
		return pieces(b, len(l)-1, lines, prefix, func(n int) int { return l[n] })
	case bytes > 0 && lines == 0:
		return pieces(b, len(b), bytes, prefix, func(n int) int { return n })
	}
	return nil, nil, api.EINVAL
}

// pieces: each of size units (lines or bytes), of which b has so many; end tells the place behind the first n of them.
func pieces(b []byte, units, size int, prefix string, end func(n int) int) ([]string, [][]byte, api.Errno) {
	if (units-1)/size >= maxPieces {
		return nil, nil, api.ERANGE
	}
	var names []string
	var l [][]byte
	for at := 0; at < units; {
		next := at + min(size, units-at)
		names = append(names, prefix+letters(len(l)))
		l = append(l, bytes.Clone(b[end(at):end(next)]))
		at = next
	}
	return names, l, api.OK
}

// letters: aa for 0, ab for 1, and so on.
func letters(n int) string {
	return string([]byte{'a' + byte(n/26), 'a' + byte(n%26)})
}
