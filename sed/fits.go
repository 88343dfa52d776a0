package sed

// fits: is the command at a place done?
func (m *machine) fits(at int) bool {
	c := &m.list[at]
	return m.addressed(at, c.addresses) != c.not
}

// addressed: is the line one that a command's addresses ask for?
func (m *machine) addressed(at int, list []address) bool {
	switch len(list) {
	case 0:
		return true
	case 1:
		return m.hits(&list[0])
	}
	return m.within(at, &list[0], &list[1])
}

// within: is the line in a range that goes on, or begins here? The end is not looked at on the line of the beginning, but for a number that no line behind this one has.
func (m *machine) within(at int, begin, end *address) bool {
	if m.open[at] > 0 {
		if m.line > m.open[at] && m.hits(end) {
			m.open[at] = 0
		}
		return true
	}
	if !m.hits(begin) {
		return false
	}
	if end.kind != atNumber || end.number > m.line {
		m.open[at] = m.line
	}
	return true
}

// hits: does one address fit?
func (m *machine) hits(a *address) bool {
	switch a.kind {
	case atNumber:
		return a.number == m.line
	case atLast:
		return m.last()
	}
	return a.match.Match(m.space)
}
