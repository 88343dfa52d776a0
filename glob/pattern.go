package glob

import "tinsel/api"

// What a piece of a pattern matches.
const (
	anyBytes  = iota // any number of them: a star
	anyByte          // a question mark
	thisByte         // one that is written there
	someBytes        // one of those of a bracket
)

// piece is a part of a pattern.
type piece struct {
	kind int
	c    byte     // of thisByte
	set  *byteSet // of someBytes
}

// pattern is one that has been read.
type pattern struct {
	pieces []piece
	flags  int
}

// matches: all of s? Only the last star is ever gone back to: those ahead of it took as little as they could, and so left it all that they can leave.
func (p pattern) matches(s string) bool {
	at, i := 0, 0
	behind, taken := -1, 0 // of the last star: the piece behind it, and the place that it has come to
goOn:
	for at < len(p.pieces) {
		if p.pieces[at].kind == anyBytes {
			at++
			behind, taken = at, i
			continue
		}
		if i == len(s) {
			return false // were the star to take more, still more would be missing here
		}
		if !p.takes(p.pieces[at], s, i) {
			goto goBack
		}
		at, i = at+1, i+1
	}
	if i == len(s) {
		return true
	}
goBack:
	if behind < 0 || p.guarded(s, taken) {
		return false
	}
	taken++
	at, i = behind, taken
	goto goOn
}

// takes: does a piece, if it is no star, match the byte at a place?
func (p pattern) takes(x piece, s string, i int) bool {
	switch x.kind {
	case thisByte:
		return folded(s[i], p.flags) == x.c
	case someBytes:
		return x.set[s[i]] && !p.guarded(s, i)
	}
	return !p.guarded(s, i)
}

// guarded: is the byte at a place one that only the same byte of a pattern matches?
func (p pattern) guarded(s string, i int) bool {
	path := p.flags&api.GlobPath != 0
	switch s[i] {
	case '/':
		return path
	case '.':
		return p.flags&api.GlobPeriod != 0 && (i == 0 || path && s[i-1] == '/')
	}
	return false
}

// folded: a byte as it is held against others: with GlobFold capitals are small letters.
func folded(c byte, flags int) byte {
	if flags&api.GlobFold != 0 && isUpper(c) {
		return c - 'A' + 'a'
	}
	return c
}
