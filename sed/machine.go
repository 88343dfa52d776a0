package sed

import (
	"strconv"
	"strings"

	"tinsel/api"
)

// maxSpace: the bytes that pattern and hold space may have together.
const maxSpace = 1 << 16

// machine runs a script on an input.
type machine struct {
	list     []command
	quiet    bool
	rest     string // the lines that have not been read
	line     int    // the number of the one that was read
	ended    bool   // it has a line feed
	space    string // the pattern space
	hold     string
	open     []int  // of each command: the line on which its range has begun; 0: none is open
	goal     int    // the command to go to behind this one
	steps    int    // commands that were looked at
	replaced bool   // by an s, since t asks
	later    []byte // what a told
	out      []byte
}

func newMachine(list []command, input string, quiet bool) *machine {
	return &machine{list: list, rest: input, quiet: quiet, open: make([]int, len(list))}
}

// cycles: one for each line, up to the last one, or to a q.
func (m *machine) cycles() {
next:
	if m.last() {
		return
	}
	m.setSpace(m.read())
begin:
	for at := 0; at < len(m.list); at = m.goal {
		c := &m.list[at]
		m.goal = at + 1
		m.step()
		if !m.fits(at) {
			if c.letter == '{' {
				m.goal = c.goal
			}
			continue
		}
		switch c.letter {
		case 'd':
			goto over
		case 'D':
			if m.behindFirst() {
				goto begin
			}
			goto over
		case 'c':
			m.replaceLines(at)
			goto over
		case 'n', 'N':
			if m.last() {
				goto end
			}
			m.readOn(c.letter == 'N')
		case 'q':
			m.rest = "" // so that no cycle follows this one
			goto end
		default:
			m.do(c)
		}
	}
end:
	m.show()
over:
	m.tellLater()
	goto next
}

// step: one more command is looked at.
func (m *machine) step() {
	if m.steps == api.MaxSteps {
		giveUp(m.line, api.ESTEPS)
	}
	m.steps++
}

// do: the commands behind which the next one follows, or a label.
func (m *machine) do(c *command) {
	switch c.letter {
	case '=':
		m.tell(strconv.Itoa(m.line))
	case 'a':
		m.later = append(append(m.later, c.takes...), '\n')
	case 'i':
		m.tell(c.takes)
	case 'b':
		m.goal = c.goal
	case 't':
		if m.replaced {
			m.replaced = false
			m.goal = c.goal
		}
	case 'g':
		m.setSpace(m.hold)
	case 'G':
		m.setSpace(m.space + "\n" + m.hold)
	case 'h':
		m.setHold(m.space)
	case 'H':
		m.setHold(m.hold + "\n" + m.space)
	case 'x':
		m.space, m.hold = m.hold, m.space
	case 'p':
		m.tell(m.space)
	case 'P':
		first, _, _ := strings.Cut(m.space, "\n")
		m.tell(first)
	case 's':
		m.substitute(&c.change)
	case 'y':
		m.exchange(c.table)
	}
}

// substitute: an s.
func (m *machine) substitute(s *substitution) {
	text, n, _ := s.match.Replace(m.space, s.by, max(s.number, 1), s.all)
	if n == 0 {
		return
	}
	m.replaced = true
	m.setSpace(text)
	if s.print {
		m.tell(m.space)
	}
}

// exchange: a y.
func (m *machine) exchange(table *[256]byte) {
	b := []byte(m.space)
	for i, c := range b {
		b[i] = table[c]
	}
	m.space = string(b)
}

// replaceLines: what a c tells: while its range goes on nothing, unless it can't go on, as this is the input's last line.
func (m *machine) replaceLines(at int) {
	c := &m.list[at]
	if c.not || m.open[at] == 0 || m.last() {
		m.tell(c.takes)
	}
}

// behindFirst: the pattern space up to its first line feed goes; false: it has none.
func (m *machine) behindFirst() bool {
	_, behind, ok := strings.Cut(m.space, "\n")
	if ok {
		m.space = behind
	}
	return ok
}
