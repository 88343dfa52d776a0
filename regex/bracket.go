package regex

import "strings"

// bracket: the bytes of the one whose [ has been gone past.
func (r *reader) bracket() *byteSet {
	others := r.takes("^")
	set := new(byteSet)
	for first := r.at; r.at == first || !r.takes("]"); {
		r.item(set, r.at == first)
	}
	return set.finished(others, r.fold)
}

// item: adds the one that stands here to a set.
func (r *reader) item(set *byteSet, first bool) {
	if r.takes("[:") {
		r.class(set)
		if r.dash() {
			giveUp()
		}
		return
	}
	lo := r.member()
	if r.dash() {
		r.at++
		hi := r.member()
		if hi < lo {
			giveUp()
		}
		for c := int(lo); c <= int(hi); c++ {
			set[c] = true
		}
		return
	}
	if lo == '-' && !first && !r.ahead("]") {
		giveUp()
	}
	set[lo] = true
}

// dash: does one stand here that makes a range?
func (r *reader) dash() bool { return r.ahead("-") && !r.ahead("-]") }

// member: the byte that stands here, and is no beginning of what is named in [: :], [. .] or [= =].
func (r *reader) member() byte {
	if !r.more() || r.ahead("[:") || r.ahead("[.") || r.ahead("[=") {
		giveUp()
	}
	c := r.text[r.at]
	r.at++
	return c
}

// class: adds the one whose name stands here.
func (r *reader) class(set *byteSet) {
	name, _, ended := strings.Cut(r.text[r.at:], ":]")
	in := classOf(name)
	if !ended || in == nil {
		giveUp()
	}
	r.at += len(name) + len(":]")
	for c := range len(set) {
		set[c] = set[c] || in(byte(c))
	}
}

// byteSet says of each byte whether it is in.
type byteSet [256]bool

// finished: the set as it matches: sizes are folded ahead of turning it round, as a letter is no other one, if either of its sizes is in.
func (set *byteSet) finished(others, fold bool) *byteSet {
	if fold {
		for small := 'a'; small <= 'z'; small++ {
			capital := small - 'a' + 'A'
			in := set[small] || set[capital]
			set[small], set[capital] = in, in
		}
	}
	for c := range len(set) {
		set[c] = set[c] != others
	}
	return set
}

// classOf: what tells the bytes of a class; nil, if there is none of that name.
func classOf(name string) func(c byte) bool {
	switch name {
	case "alpha":
		return isLetter
	case "digit":
		return isDigit
	case "alnum":
		return isAlnum
	case "upper":
		return isUpper
	case "lower":
		return isLower
	case "space":
		return func(c byte) bool { return c == ' ' || '\t' <= c && c <= '\r' }
	case "blank":
		return func(c byte) bool { return c == ' ' || c == '\t' }
	case "punct":
		return func(c byte) bool { return isGraph(c) && !isAlnum(c) }
	case "print":
		return func(c byte) bool { return c == ' ' || isGraph(c) }
	case "graph":
		return isGraph
	case "cntrl":
		return func(c byte) bool { return c < ' ' || c == 127 }
	case "xdigit":
		return func(c byte) bool { return isDigit(c) || 'a' <= c && c <= 'f' || 'A' <= c && c <= 'F' }
	}
	return nil
}

func isUpper(c byte) bool { return 'A' <= c && c <= 'Z' }

func isLower(c byte) bool { return 'a' <= c && c <= 'z' }

func isLetter(c byte) bool { return isUpper(c) || isLower(c) }

func isDigit(c byte) bool { return '0' <= c && c <= '9' }

func isAlnum(c byte) bool { return isLetter(c) || isDigit(c) }

func isGraph(c byte) bool { return '!' <= c && c <= '~' }
