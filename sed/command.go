package sed

import (
	"strconv"
	"strings"

	"tinsel/regex"
)

// command is one of a script.
type command struct {
	line      int // of the script, on which it begins
	addresses []address
	not       bool // a ! stands ahead of the letter
	letter    byte
	takes     string       // what stands behind the letter, as Lines tells it
	goal      int          // the command that {, b and t lead to
	change    substitution // of s
	table     *[256]byte   // of y: what each byte becomes
}

// kind is what an address asks for.
type kind int

const (
	atNumber kind = iota
	atLast
	atMatch
)

// address says on which lines a command is done.
type address struct {
	kind   kind
	number int
	given  string // the pattern as it stands in the script
	text   string // the pattern as it is meant
	match  *regex.Regex
}

// substitution is what an s does.
type substitution struct {
	pattern, by      string // as they are meant
	match            *regex.Regex
	all, print, fold bool
	number           int // 0: none was given
}

// said: the command as a line of a script.
func (c *command) said() string {
	var list []string
	for _, a := range c.addresses {
		list = append(list, a.said())
	}
	s := strings.Join(list, ",")
	if c.not {
		s += "!"
	}
	return s + string(c.letter) + c.takes
}

// said: the address as it stands in a script.
func (a *address) said() string {
	switch a.kind {
	case atNumber:
		return strconv.Itoa(a.number)
	case atLast:
		return "$"
	}
	return "/" + a.given + "/"
}

// flags: those of an s, in Lines' order.
func (s *substitution) flags() string {
	text := ""
	if s.all {
		text += "g"
	}
	if s.print {
		text += "p"
	}
	if s.fold {
		text += "i"
	}
	if s.number > 0 {
		text += strconv.Itoa(s.number)
	}
	return text
}
