package regex

import (
	"strings"

	"tinsel/api"
)

// giveUp: a pattern that is none; it may be found out deep inside, and Compile answers for it.
func giveUp() { panic(api.EREGEX) }

// reader goes through a pattern's text.
type reader struct {
	text           string
	at             int
	extended, fold bool
	groups         int // that have begun
}

// read: a pattern's tree, and how many groups it has.
func read(text string, extended, fold bool) (node, int) {
	if len(text) > api.MaxLine {
		giveUp()
	}
	r := reader{text: text, extended: extended, fold: fold}
	x := r.pattern()
	if r.more() || x.size() > maxSize { // what is left begins with a group's end
		giveUp()
	}
	return x, r.groups
}

// more: is there any text left?
func (r *reader) more() bool { return r.at < len(r.text) }

// ahead: does this stand here?
func (r *reader) ahead(what string) bool { return strings.HasPrefix(r.text[r.at:], what) }

// takes: does this stand here? Then it is gone past.
func (r *reader) takes(what string) bool {
	if !r.ahead(what) {
		return false
	}
	r.at += len(what)
	return true
}

// mark: how one of ( ) { } is written where it has its meaning.
func (r *reader) mark(what string) string {
	if r.extended {
		return what
	}
	return `\` + what
}

// pattern: the one that begins here, up to the end of the text or of a group.
func (r *reader) pattern() node {
	list := choice{r.branch()}
	for r.extended && r.takes("|") {
		list = append(list, r.branch())
	}
	return list
}

// branch: the one that begins here.
func (r *reader) branch() row {
	var list row
	begin := r.at
	for r.more() && !r.ahead(r.mark(")")) && !(r.extended && r.ahead("|")) {
		list = append(list, r.piece(begin))
	}
	return list
}

// piece: an atom of the branch that began there, and the repetitions behind it.
func (r *reader) piece(begin int) node {
	groups := r.groups
	x := r.atom(begin)
	_, isEdge := x.(edge)
	if isEdge && !r.extended && r.ahead("*") {
		return x // the star behind it has no meaning: it is the next atom
	}
	for {
		least, most, ok := r.repetition()
		if !ok {
			return x
		}
		if isEdge {
			giveUp()
		}
		x = repeat{inner: x, least: least, most: most, from: groups, to: r.groups}
	}
}

// atom: the one that stands here, in the branch that began there.
func (r *reader) atom(begin int) node {
	switch {
	case r.ahead("^") && (r.extended || r.at == begin):
		r.at++
		return edge{}
	case r.ahead("$") && r.endsHere(r.at+1):
		r.at++
		return edge{end: true}
	case r.takes(r.mark("(")):
		return r.group()
	case r.takes("["):
		return single{r.bracket()}
	case r.takes("."):
		return single{new(byteSet).finished(true, false)}
	}
	set := new(byteSet)
	set[r.plain()] = true
	return single{set.finished(false, r.fold)}
}

// endsHere: has a $ its meaning, if this is the place behind it?
func (r *reader) endsHere(behind int) bool {
	rest := r.text[behind:]
	return r.extended || rest == "" || strings.HasPrefix(rest, r.mark(")"))
}

// group: the one whose beginning has been gone past.
func (r *reader) group() node {
	if r.groups == maxGroups {
		giveUp()
	}
	r.groups++
	x := group{number: r.groups}
	x.inner = r.pattern()
	if !r.takes(r.mark(")")) {
		giveUp()
	}
	return x
}

// plain: the byte that stands here for itself, with a \ or without. A star that comes here has no atom ahead of it: basic patterns have no meaning for it there.
func (r *reader) plain() byte {
	have, quoted := "", `.[\*^$/`
	if r.extended {
		have, quoted = "*+?{", quoted+"()|+?{}"
	}
	c := r.text[r.at]
	if c == '\\' {
		r.at++
		if !r.more() || strings.IndexByte(quoted, r.text[r.at]) < 0 {
			giveUp()
		}
		c = r.text[r.at]
	} else if strings.IndexByte(have, c) >= 0 {
		giveUp()
	}
	r.at++
	return c
}

// repetition: how many rounds at least and at most the one that stands here does; false: none stands here.
func (r *reader) repetition() (least, most int, ok bool) {
	switch {
	case r.takes("*"):
		return 0, endless, true
	case r.extended && r.takes("+"):
		return 1, endless, true
	case r.extended && r.takes("?"):
		return 0, 1, true
	case r.takes(r.mark("{")):
		least, most = r.rounds()
		return least, most, true
	}
	return 0, 0, false
}

// rounds: the numbers that stand in { }.
func (r *reader) rounds() (least, most int) {
	least = r.number()
	most = least
	if r.takes(",") {
		most = endless
		if !r.ahead(r.mark("}")) {
			most = r.number()
		}
	}
	if !r.takes(r.mark("}")) || most != endless && most < least {
		giveUp()
	}
	return least, most
}

// number: one to three digits.
func (r *reader) number() int {
	n, begin := 0, r.at
	for r.more() && r.at < begin+3 && isDigit(r.text[r.at]) {
		n = n*10 + int(r.text[r.at]-'0')
		r.at++
	}
	if r.at == begin || n > maxRounds {
		giveUp()
	}
	return n
}
