package order

import (
	"bytes"
	"strings"

	"tinsel/api"
)

// maxDigits: of a number in a key's text.
const maxDigits = 9

// spot is one end of a key.
type spot struct {
	field, char, flags int
}

// ParseKey: a key of its text, F[.C][LETTERS][,F[.C][LETTERS]].
func ParseKey(s string) (api.Key, api.Errno) {
	begin, end, two := strings.Cut(s, ",")
	from, ok := spotOf(begin, 1)
	if !ok || from.char == 0 {
		return api.Key{}, api.EINVAL
	}
	var to spot
	if two {
		if to, ok = spotOf(end, 0); !ok {
			return api.Key{}, api.EINVAL
		}
	}
	return api.Key{Field: from.field, Char: from.char, EndField: to.field, EndChar: to.char, Flags: from.flags | to.flags}, api.OK
}

// spotOf: F[.C][LETTERS]; char counts where no C is.
func spotOf(s string, char int) (spot, bool) {
	field, s, ok := leadingNumber(s)
	if !ok || field == 0 {
		return spot{}, false
	}
	if rest, point := strings.CutPrefix(s, "."); point {
		if char, s, ok = leadingNumber(rest); !ok {
			return spot{}, false
		}
	}
	flags, ok := letterFlags(s)
	return spot{field, char, flags}, ok
}

// leadingNumber: that of the digits at the beginning, and what stands behind them; false: there are none, or too many.
func leadingNumber(s string) (int, string, bool) {
	n, at := 0, 0
	for ; at < len(s) && isDigit(s[at]); at++ {
		if at == maxDigits {
			return 0, "", false
		}
		n = n*10 + int(s[at]-'0')
	}
	return n, s[at:], at > 0
}

// letterFlags: those of all letters of a text; false: one is none of them.
func letterFlags(s string) (int, bool) {
	flags := 0
	for _, c := range []byte(s) {
		switch c {
		case 'n':
			flags |= api.KeyNumeric
		case 'r':
			flags |= api.KeyReverse
		case 'f':
			flags |= api.KeyFold
		case 'b':
			flags |= api.KeyBlanks
		case 'd':
			flags |= api.KeyDict
		default:
			return 0, false
		}
	}
	return flags, true
}

// Part: a key's part of a line.
func Part(line []byte, k api.Key, sep byte) []byte { return bytes.Clone(part(line, k, sep)) }

// part: likewise, in the line's own memory.
func part(line []byte, k api.Key, sep byte) []byte {
	begin, end := field(line, k.Field, sep)
	from, to := reach(line, begin, end, max(k.Char, 1)-1, k.Flags), len(line)
	if k.EndField > 0 {
		begin, to = field(line, k.EndField, sep)
		if k.EndChar > 0 {
			to = reach(line, begin, to, k.EndChar, k.Flags)
		}
	}
	return line[min(from, to):to]
}

// reach: the place behind the first n bytes of a field, also if they go beyond it.
func reach(line []byte, begin, end, n, flags int) int {
	if flags&api.KeyBlanks != 0 {
		begin += leading(line[begin:end], isBlank)
	}
	return begin + min(n, len(line)-begin)
}

// field: where the n-th one begins and ends; one that the line does not have does so at the line's end.
func field(line []byte, n int, sep byte) (int, int) {
	begin, end := 0, fieldEnd(line, 0, sep)
	for ; n > 1; n-- {
		if end == len(line) {
			return end, end
		}
		begin = end
		if sep != 0 {
			begin++
		}
		end = fieldEnd(line, begin, sep)
	}
	return begin, end
}

// fieldEnd: the end of the field that begins there.
func fieldEnd(line []byte, begin int, sep byte) int {
	rest := line[begin:]
	if sep == 0 {
		blanks := leading(rest, isBlank)
		return begin + blanks + leading(rest[blanks:], isWord)
	}
	if n := bytes.IndexByte(rest, sep); n >= 0 {
		return begin + n
	}
	return len(line)
}

// isWord: is it no blank?
func isWord(c byte) bool { return !isBlank(c) }
