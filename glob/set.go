package glob

import (
	"strings"

	"tinsel/api"
)

// Set: the bytes of a set of tr.
func Set(s string, size int) (b []byte, e api.Errno) {
	defer func() {
		if recover() != nil {
			b, e = nil, api.EINVAL
		}
	}()
	r := setReader{text: s, size: size, lastEnd: strings.LastIndex(s, ":]")}
	for at := 0; at < len(s); {
		at = r.item(at)
	}
	return r.whole()
}

// giveUp: a text that is no set; it may be found out deep inside, and Set answers for it.
func giveUp() { panic(api.EINVAL) }

// setReader goes through a set's text.
type setReader struct {
	text    string
	size    int    // as many bytes as a [C*] is to make
	lastEnd int    // where the last end of a class stands; -1: nowhere
	out     []byte // at most one more than a set may have, however many there would be
	filled  bool   // a [C*] has come
	fill    byte   // its byte
	fillAt  int    // how many bytes stand ahead of it
}

// item: the one at a place is read; the place behind it.
func (r *setReader) item(at int) int {
	if r.text[at] == '[' {
		if behind := r.class(at + 1); behind > 0 {
			return behind
		}
		if behind := r.equal(at + 1); behind > 0 {
			return behind
		}
		if behind := r.repeat(at + 1); behind > 0 {
			return behind
		}
	}
	return r.span(at)
}

// class: reads :NAME:] and tells the place behind it; 0, if that does not stand there.
func (r *setReader) class(at int) int {
	if !strings.HasPrefix(r.text[at:], ":") || r.lastEnd <= at {
		return 0
	}
	name, _, _ := strings.Cut(r.text[at+1:], ":]")
	list, e := Class(name)
	if e != api.OK {
		giveUp()
	}
	for _, c := range list {
		r.add(c, 1)
	}
	return at + len(":") + len(name) + len(":]")
}

// equal: likewise =C=].
func (r *setReader) equal(at int) int {
	if at+1 >= len(r.text) || r.text[at] != '=' {
		return 0
	}
	c, behind := r.letter(at + 1)
	if !strings.HasPrefix(r.text[behind:], "=]") {
		return 0
	}
	r.add(c, 1)
	return behind + len("=]")
}

// repeat: likewise C*N].
func (r *setReader) repeat(at int) int {
	if at == len(r.text) {
		return 0
	}
	c, behind := r.letter(at)
	digits, begun := strings.CutPrefix(r.text[behind:], "*")
	n := 0
	for n < len(digits) && isDigit(digits[n]) {
		n++
	}
	if !begun || !strings.HasPrefix(digits[n:], "]") {
		return 0
	}
	times, ok := count(digits[:n])
	if !ok {
		return 0
	}
	if times == 0 {
		r.fillWith(c)
	}
	r.add(c, times)
	return behind + len("*") + n + len("]")
}

// count: the number of digits, as far as it counts: a set has no room for more than MaxSet + 1; false: a digit is none of the octal ones that a nought asks for.
func count(digits string) (int, bool) {
	base := 10
	if strings.HasPrefix(digits, "0") {
		base = 8
	}
	n := 0
	for i := range len(digits) {
		d := int(digits[i] - '0')
		if d >= base {
			return 0, false
		}
		n = min(n*base+d, api.MaxSet+1)
	}
	return n, true
}

// fillWith: a [C*] stands here.
func (r *setReader) fillWith(c byte) {
	if r.size < 0 || r.filled {
		giveUp()
	}
	r.filled, r.fill, r.fillAt = true, c, len(r.out)
}

// span: LO-HI, or a byte, at a place; the place behind it.
func (r *setReader) span(at int) int {
	lo, behind := r.letter(at)
	hi := lo
	if behind+1 < len(r.text) && r.text[behind] == '-' {
		hi, behind = r.letter(behind + 1)
	}
	if hi < lo {
		giveUp()
	}
	for c := int(lo); c <= int(hi); c++ {
		r.add(byte(c), 1)
	}
	return behind
}

// letter: the byte that is written at a place, with a backslash or without, and the place behind it.
func (r *setReader) letter(at int) (byte, int) {
	if r.text[at] != '\\' || at+1 == len(r.text) {
		return r.text[at], at + 1
	}
	at++
	if !isOctal(r.text[at]) {
		return escaped(r.text[at]), at + 1
	}
	n, end := 0, min(at+3, len(r.text))
	for at < end && isOctal(r.text[at]) {
		n = n*8 + int(r.text[at]-'0')
		at++
	}
	return byte(n % 256), at
}

// isOctal: one of the octal digits?
func isOctal(c byte) bool { return '0' <= c && c <= '7' }

// escaped: what a byte that is no octal digit stands for behind a backslash.
func escaped(c byte) byte {
	switch c {
	case 'a':
		return 7
	case 'b':
		return 8
	case 't':
		return 9
	case 'n':
		return 10
	case 'v':
		return 11
	case 'f':
		return 12
	case 'r':
		return 13
	}
	return c
}

// add: a byte, n times, as far as they count.
func (r *setReader) add(c byte, n int) {
	for range min(n, api.MaxSet+1-len(r.out)) {
		r.out = append(r.out, c)
	}
}

// whole: the set, when all of its text has been read. What does not fit is told only here, as all that may be wrong in the text comes first.
func (r *setReader) whole() ([]byte, api.Errno) {
	all := len(r.out)
	if r.filled {
		all = max(all, r.size)
	}
	if all > api.MaxSet {
		return nil, api.ERANGE
	}
	b := append([]byte(nil), r.out[:r.fillAt]...)
	for range all - len(r.out) {
		b = append(b, r.fill)
	}
	return append(b, r.out[r.fillAt:]...), api.OK
}
