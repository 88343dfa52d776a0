package perm

import "tinsel/api"

// Change: what chmod's text makes of a mode.
func Change(text string, old api.Mode, umask int) (m api.Mode, e api.Errno) {
	defer func() {
		if recover() != nil {
			m, e = 0, api.EINVAL
		}
	}()
	kind := old & api.TypeMask
	if text != "" && isDigit(rune(text[0])) {
		return kind | number(text), api.OK
	}
	return kind | clauses(text, old, umask), api.OK
}

// giveUp: a text that is none; it may be found out deep inside, and Change answers for it.
func giveUp() { panic(api.EINVAL) }

// isDigit: one of the octal digits?
func isDigit(c rune) bool { return '0' <= c && c <= '7' }

// number: of one to four octal digits.
func number(text string) api.Mode {
	if len(text) > 4 {
		giveUp()
	}
	n := api.Mode(0)
	for _, c := range text {
		if !isDigit(c) {
			giveUp()
		}
		n = n<<3 | api.Mode(c-'0')
	}
	return n
}

// clauses: the permission bits that they make of a mode's.
func clauses(text string, old api.Mode, umask int) api.Mode {
	r := reader{now: old & api.PermMask, unnamed: api.PermMask &^ api.Mode(umask)}
	if isDir(old) || old&someX != 0 {
		r.maybeX = someX
	}
	for _, c := range text {
		r.take(c)
	}
	r.take(',') // ends the last clause like the others
	return r.now
}

// reader goes through clauses letter by letter, and does each action when it has come to its end.
type reader struct {
	now     api.Mode // the bits, as the actions so far have left them
	maybeX  api.Mode // what X stands for: told ahead of all actions
	unnamed api.Mode // WHO of a clause without letters
	who     api.Mode // of the clause's letters
	sign    rune     // of the action that is being read; 0: there is none yet
	what    api.Mode // of its letters
	bare    bool     // no letter has come behind the sign
	closed  bool     // one has come that stands alone
}

// take: the next letter.
func (r *reader) take(c rune) {
	switch {
	case c == '+' || c == '-' || c == '=':
		r.do()
		r.sign, r.what, r.bare, r.closed = c, 0, true, false
	case r.sign == 0:
		r.who |= whose(c)
	case c == ',':
		r.do()
		r.who, r.sign = 0, 0
	default:
		r.letter(c)
	}
}

// whose: the bits of one whom a clause names.
func whose(c rune) api.Mode {
	switch c {
	case 'u':
		return 0o4700
	case 'g':
		return 0o2070
	case 'o':
		return 0o1007
	case 'a':
		return 0o7777
	}
	giveUp()
	return 0
}

// letter: one that stands behind a sign.
func (r *reader) letter(c rune) {
	alone := c == 'u' || c == 'g' || c == 'o'
	if r.closed || alone && !r.bare {
		giveUp()
	}
	r.what |= r.bits(c)
	r.bare, r.closed = false, alone
}

// bits: what such a letter stands for, for owner, group and others.
func (r *reader) bits(c rune) api.Mode {
	switch c {
	case 'r':
		return 0o444
	case 'w':
		return 0o222
	case 'x':
		return someX
	case 'X':
		return r.maybeX
	case 's':
		return api.SetUid | api.SetGid
	case 't':
		return api.Sticky
	case 'u':
		return forAll(r.now >> 6)
	case 'g':
		return forAll(r.now >> 3)
	case 'o':
		return forAll(r.now)
	}
	giveUp()
	return 0
}

// forAll: the last three bits, for owner, group and others.
func forAll(m api.Mode) api.Mode { return (m & 7) * someX }

// do: the action that has been read, if there is one.
func (r *reader) do() {
	who := r.who
	if who == 0 {
		who = r.unnamed
	}
	bits := r.what & who
	switch r.sign {
	case '+':
		r.now |= bits
	case '-':
		r.now &^= bits
	case '=':
		r.now = r.now&^who | bits
	}
}
