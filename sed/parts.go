package sed

import (
	"strings"

	"tinsel/api"
	"tinsel/regex"
)

// Limits of a script that the chapter names.
const (
	maxLabel = 20
	maxNth   = 512
)

// delimiter: the byte that must stand here and parts what follows.
func (r *reader) delimiter() byte {
	c := r.next()
	if c == '\\' {
		r.refuse()
	}
	return c
}

// part: what stands ahead of the delimiter, which is gone past; as it is given, and as it is meant: with the delimiter alone for a \ and the delimiter.
func (r *reader) part(delimiter byte) (given, text string) {
	begin := r.at
	var b []byte
	for c := r.next(); c != delimiter; c = r.next() {
		if c == '\\' {
			c = r.next()
			if c != delimiter {
				b = append(b, '\\')
			}
		}
		b = append(b, c)
	}
	return r.text[begin : r.at-1], string(b)
}

// pattern: a part that may not be empty.
func (r *reader) pattern(delimiter byte) (given, text string) {
	given, text = r.part(delimiter)
	if text == "" {
		r.refuse()
	}
	return given, text
}

// substitution: what an s takes.
func (r *reader) substitution(c *command) {
	d := r.delimiter()
	pattern, by, s := "", "", &c.change
	pattern, s.pattern = r.pattern(d)
	by, s.by = r.part(d)
	for r.flag(s) {
	}
	c.takes = delimited(d, pattern, by) + s.flags()
}

// flag: the one that stands here, if any; each may be given once.
func (r *reader) flag(s *substitution) bool {
	var given bool
	switch {
	case r.takes('g'):
		given, s.all = s.all, true
	case r.takes('p'):
		given, s.print = s.print, true
	case r.takes('i'):
		given, s.fold = s.fold, true
	case r.digit():
		given, s.number = s.number > 0, r.number(maxNth)
	default:
		return false
	}
	if given {
		r.refuse()
	}
	return true
}

// exchange: what a y takes.
func (r *reader) exchange(c *command) {
	d := r.delimiter()
	from, _ := r.part(d)
	to, _ := r.part(d)
	c.takes = delimited(d, from, to)
	a, b := plain(from, d), plain(to, d)
	if len(a) != len(b) {
		r.refuse()
	}
	c.table = new([256]byte)
	for i := range c.table {
		c.table[i] = byte(i)
	}
	for i := range len(a) {
		if strings.IndexByte(a[:i], a[i]) >= 0 {
			r.refuse()
		}
		c.table[a[i]] = b[i]
	}
}

// delimited: two parts as they stand in a script.
func delimited(d byte, one, other string) string {
	return string([]byte{d}) + one + string([]byte{d}) + other + string([]byte{d})
}

// plain: the bytes that a text of y means. A \ has no meaning ahead of other bytes than these.
func plain(given string, delimiter byte) string {
	var b []byte
	for i := 0; i < len(given); i++ {
		c := given[i]
		if c == '\\' {
			switch next := given[i+1]; next {
			case 'n':
				c = '\n'
				i++
			case '\\', delimiter:
				c = next
				i++
			}
		}
		b = append(b, c)
	}
	return string(b)
}

// compile: a command's patterns, and what an s asks of its own.
func (r *reader) compile(c *command) {
	for i := range c.addresses {
		if a := &c.addresses[i]; a.kind == atMatch {
			a.match = r.compiled(a.text, false)
		}
	}
	if c.letter != 's' {
		return
	}
	s := &c.change
	s.match = r.compiled(s.pattern, s.fold)
	if _, _, e := s.match.Replace("", s.by, 1, false); e != api.OK {
		giveUp(r.line, e)
	}
}

// compiled: a pattern that was read.
func (r *reader) compiled(text string, fold bool) *regex.Regex {
	x, e := regex.Compile(text, r.extended, fold)
	if e != api.OK {
		giveUp(r.line, e)
	}
	return x
}
