package sed

import (
	"strings"

	"tinsel/api"
)

// last: is there no line behind this one?
func (m *machine) last() bool { return m.rest == "" }

// read: the next line.
func (m *machine) read() string {
	line, rest, ended := strings.Cut(m.rest, "\n")
	m.rest, m.ended = rest, ended
	m.line++
	m.replaced = false
	return line
}

// readOn: n, or N: the next line is the pattern space, or stands behind it.
func (m *machine) readOn(behind bool) {
	before := ""
	if behind {
		before = m.space + "\n"
	} else {
		m.show()
	}
	m.tellLater()
	m.setSpace(before + m.read())
}

// setSpace: the pattern space.
func (m *machine) setSpace(text string) {
	m.space = text
	m.weigh()
}

// setHold: the hold space.
func (m *machine) setHold(text string) {
	m.hold = text
	m.weigh()
}

// weigh: both spaces may not be too great together.
func (m *machine) weigh() {
	if len(m.space)+len(m.hold) > maxSpace {
		giveUp(m.line, api.ESTEPS)
	}
}

// tell: a text and a line feed.
func (m *machine) tell(text string) { m.out = append(append(m.out, text...), '\n') }

// show: the pattern space at a cycle's end, as a line that ends if the one that was read does.
func (m *machine) show() {
	if m.quiet {
		return
	}
	m.out = append(m.out, m.space...)
	if m.ended {
		m.out = append(m.out, '\n')
	}
}

// tellLater: what a told.
func (m *machine) tellLater() {
	m.out = append(m.out, m.later...)
	m.later = m.later[:0]
}
