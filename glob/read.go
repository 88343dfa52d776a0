package glob

import "tinsel/api"

// reader goes through a pattern's text.
type reader struct {
	text  string
	flags int
	seen  []bool // where items of brackets have been read
}

// read: a pattern of its text.
func read(text string, flags int) pattern {
	r := reader{text: text, flags: flags}
	p := pattern{flags: flags}
	for at := 0; at < len(text); {
		x, behind := r.piece(at)
		p.pieces = append(p.pieces, x)
		at = behind
	}
	return p
}

// piece: the one at a place, and the place behind it.
func (r *reader) piece(at int) (piece, int) {
	switch r.text[at] {
	case '*':
		return piece{kind: anyBytes}, at + 1
	case '?':
		return piece{kind: anyByte}, at + 1
	case '[':
		if set, behind, ended := r.bracket(at + 1); ended {
			return piece{kind: someBytes, set: set}, behind
		}
	}
	c, behind := r.letter(at)
	return piece{kind: thisByte, c: folded(c, r.flags)}, behind
}

// letter: the byte that is written at a place, with a backslash or without, and the place behind it.
func (r *reader) letter(at int) (byte, int) {
	if r.text[at] == '\\' && r.flags&api.GlobPlain == 0 && at+1 < len(r.text) {
		return r.text[at+1], at + 2
	}
	return r.text[at], at + 1
}

// bracket: the bytes of the one whose [ stands ahead of a place, and the place behind it; false: it has no end.
func (r *reader) bracket(at int) (*byteSet, int, bool) {
	others := at < len(r.text) && (r.text[at] == '!' || r.text[at] == '^')
	if others {
		at++
	}
	set := new(byteSet)
	// item adds the one at a place, and tells the place behind it; for a range's other end it calls itself, with the end that it has (else lo is below 0).
	var item func(at, lo int) int
	item = func(at, lo int) int {
		if name := classAt(r.text[at:]); name != "" && lo < 0 {
			set.addClass(name)
			return at + len("[:") + len(name) + len(":]")
		}
		c, behind := r.letter(at)
		switch {
		case lo >= 0:
			set.addRange(lo, int(c))
		case r.dash(behind):
			return item(behind+1, int(c))
		default:
			set[c] = true
		}
		return behind
	}
	for first := at; at < len(r.text) && !r.lost(at); at = item(at, -1) {
		if r.text[at] == ']' && at != first {
			return set.finished(others, r.flags), at + 1, true
		}
	}
	return nil, 0, false
}

// dash: does one stand at a place that makes a range of what stands on both its sides?
func (r *reader) dash(at int) bool {
	return at+1 < len(r.text) && r.text[at] == '-' && r.text[at+1] != ']'
}

// lost: has an item at a place been read already? That was for a [ further ahead, which came to no end, or the place would lie behind us. So will this one: many a [ without an end is told in one go.
func (r *reader) lost(at int) bool {
	if r.seen == nil {
		r.seen = make([]bool, len(r.text))
	}
	was := r.seen[at]
	r.seen[at] = true
	return was
}
