package perm

import "tinsel/api"

// Text: as ls has it.
func Text(m api.Mode) string {
	b := []byte{kindByte(m), '-', '-', '-', '-', '-', '-', '-', '-', '-'}
	for i, c := range "rwxrwxrwx" {
		if m&bitAt(i+1) != 0 {
			b[i+1] = byte(c)
		}
	}
	for i, c := range "--s--s--t" {
		if c != '-' && m&specialAt(i+1) != 0 {
			b[i+1] = special(byte(c), b[i+1])
		}
	}
	return string(b)
}

// kindByte: the first byte of a text.
func kindByte(m api.Mode) byte {
	switch m & api.TypeMask {
	case api.TypeDir:
		return 'd'
	case api.TypeLink:
		return 'l'
	case api.TypePipe:
		return 'p'
	case api.TypeReg:
		return '-'
	}
	return '?'
}

// bitAt: what r, w or x stands for at one of the places 1 to 9.
func bitAt(i int) api.Mode { return 0o1000 >> i }

// specialAt: what s or t stands for at the places 3, 6 and 9.
func specialAt(i int) api.Mode { return 0o10000 >> (i / 3) }

// special: the letter that stands in place of an x, or, as a capital, of none.
func special(c, below byte) byte {
	if below == 'x' {
		return c
	}
	return c - 'a' + 'A'
}

// Parse: of such a text.
func Parse(s string) (api.Mode, api.Errno) {
	if len(s) != len("-rwxrwxrwx") || s[0] == '?' {
		return 0, api.EINVAL
	}
	m := kindOf(s[0])
	for i := 1; i < len(s); i++ {
		m |= bitsOf(s[i], i)
	}
	// A letter at a wrong place has been read for another one: it shows in the text that the mode has.
	if Text(m) != s {
		return 0, api.EINVAL
	}
	return m, api.OK
}

// kindOf: the type that a text's first byte stands for.
func kindOf(c byte) api.Mode {
	switch c {
	case 'd':
		return api.TypeDir
	case 'l':
		return api.TypeLink
	case 'p':
		return api.TypePipe
	case '-':
		return api.TypeReg
	}
	return 0
}

// bitsOf: what a letter stands for at one of the places 1 to 9, if that is its place.
func bitsOf(c byte, i int) api.Mode {
	switch c {
	case 'r', 'w', 'x':
		return bitAt(i)
	case 's', 't':
		return bitAt(i) | specialAt(i)
	case 'S', 'T':
		return specialAt(i)
	}
	return 0
}

// Octal: four octal digits.
func Octal(m api.Mode) string {
	b := []byte("0000")
	for i := range b {
		b[i] += byte(m >> (9 - 3*i) & 7)
	}
	return string(b)
}
