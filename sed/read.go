package sed

import (
	"strings"

	"tinsel/api"
	"tinsel/number"
)

// reader goes through a script.
type reader struct {
	text     string
	at       int
	line     int // of the command that is being read: none goes on behind a line feed
	extended bool
	list     []command
	open     []int          // the { whose } has not been seen
	labels   map[string]int // where each one stands
}

// read: a script's commands.
func read(script string, extended bool) []command {
	if len(script) > api.MaxLine {
		giveUp(0, api.ESCRIPT)
	}
	r := reader{text: script, line: 1, extended: extended, labels: map[string]int{}}
	for r.begins() {
		r.command()
	}
	if len(r.open) > 0 {
		giveUp(r.list[r.open[0]].line, api.ESCRIPT)
	}
	r.lead()
	return r.list
}

// begins: goes on to the next command; false: there is none.
func (r *reader) begins() bool {
	for ; r.more(); r.at++ {
		switch r.text[r.at] {
		case '\n':
			r.line++
		case ';', ' ', '\t':
		default:
			return true
		}
	}
	return false
}

// command: adds the one that begins here. Its patterns are looked at behind all else in it, as ESCRIPT comes first.
func (r *reader) command() {
	c := command{line: r.line, addresses: r.addresses()}
	r.blanks()
	c.not = r.takes('!')
	r.blanks()
	c.letter = r.next()
	r.argument(&c)
	r.compile(&c)
	r.list = append(r.list, c)
}

// argument: what a command takes, and whether what follows may follow it.
func (r *reader) argument(c *command) {
	switch c.letter {
	case '{':
		r.open = append(r.open, len(r.list))
		return // the first command inside may follow at once
	case '}':
		r.close()
	case '=', 'd', 'D', 'g', 'G', 'h', 'H', 'n', 'N', 'p', 'P', 'q', 'x':
	case 'a', 'i', 'c':
		r.blanks()
		c.takes = r.upTo("\n")
	case 'b', 't':
		c.takes = r.label()
	case ':':
		c.takes = r.label()
		r.define(c.takes)
	case 's':
		r.substitution(c)
	case 'y':
		r.exchange(c)
	default:
		r.refuse()
	}
	if !r.ends(c.letter) {
		r.refuse()
	}
}

// ends: may what stands here follow a command? No } follows a label, or the place of one. (A text goes on up to the line's end.)
func (r *reader) ends(letter byte) bool {
	r.blanks()
	if r.ahead('}') {
		return strings.IndexByte("bt:", letter) < 0
	}
	return !r.more() || r.ahead(';') || r.ahead('\n')
}

// close: a }, behind which the { that it belongs to leads.
func (r *reader) close() {
	last := len(r.open) - 1
	if last < 0 {
		r.refuse()
	}
	r.list[r.open[last]].goal = len(r.list) + 1
	r.open = r.open[:last]
}

// label: the one that stands here, or none.
func (r *reader) label() string {
	r.blanks()
	s := strings.TrimRight(r.upTo("\n;}"), " \t")
	if len(s) > maxLabel {
		r.refuse()
	}
	for i := range len(s) {
		if c := s[i]; !isDigit(c) && (c < 'a' || c > 'z') && (c < 'A' || c > 'Z') {
			r.refuse()
		}
	}
	return s
}

// define: a label's place.
func (r *reader) define(label string) {
	if _, twice := r.labels[label]; twice || label == "" {
		r.refuse()
	}
	r.labels[label] = len(r.list)
}

// lead: each b and t to its label, which may stand behind it.
func (r *reader) lead() {
	for i := range r.list {
		c := &r.list[i]
		if c.letter != 'b' && c.letter != 't' {
			continue
		}
		c.goal = len(r.list)
		if c.takes == "" {
			continue
		}
		at, ok := r.labels[c.takes]
		if !ok {
			giveUp(c.line, api.ESCRIPT)
		}
		c.goal = at + 1
	}
}

// addresses: those that stand here: none, one or two.
func (r *reader) addresses() []address {
	if !r.ahead('$') && !r.ahead('/') && !r.digit() {
		return nil
	}
	list := []address{r.address()}
	if r.takes(',') {
		list = append(list, r.address())
	}
	return list
}

// address: the one that must stand here.
func (r *reader) address() address {
	switch {
	case r.takes('$'):
		return address{kind: atLast}
	case r.takes('/'):
		given, text := r.pattern('/')
		return address{kind: atMatch, given: given, text: text}
	}
	return address{kind: atNumber, number: r.number(api.MaxNumber)}
}

// number: the one that must stand here, from 1 on.
func (r *reader) number(most int) int {
	begin := r.at
	for r.digit() {
		r.at++
	}
	n, e := number.Int(r.text[begin:r.at])
	if e != api.OK || n < 1 || n > most {
		r.refuse()
	}
	return n
}

// refuse: the command that is being read is none.
func (r *reader) refuse() { giveUp(r.line, api.ESCRIPT) }

// more: is any text left?
func (r *reader) more() bool { return r.at < len(r.text) }

// ahead: does this stand here?
func (r *reader) ahead(c byte) bool { return r.more() && r.text[r.at] == c }

// digit: does one stand here?
func (r *reader) digit() bool { return r.more() && isDigit(r.text[r.at]) }

// takes: does this stand here? Then it is gone past.
func (r *reader) takes(c byte) bool {
	if !r.ahead(c) {
		return false
	}
	r.at++
	return true
}

// next: the byte that must stand here on this line.
func (r *reader) next() byte {
	if !r.more() || r.ahead('\n') {
		r.refuse()
	}
	r.at++
	return r.text[r.at-1]
}

// blanks: gone past.
func (r *reader) blanks() {
	for r.ahead(' ') || r.ahead('\t') {
		r.at++
	}
}

// upTo: what stands ahead of any of these, or of the script's end.
func (r *reader) upTo(these string) string {
	s := r.text[r.at:]
	if i := strings.IndexAny(s, these); i >= 0 {
		s = s[:i]
	}
	r.at += len(s)
	return s
}

func isDigit(c byte) bool { return '0' <= c && c <= '9' }
