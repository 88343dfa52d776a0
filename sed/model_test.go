package sed_test

import (
	"regexp"
	"strconv"
	"strings"
	"testing"

	"tinsel/api"
	"tinsel/regex"
)

// The grammar told another way: by expressions of Go's own, for scripts of bytes below 128.
const (
	oneAddress = `0*[1-9][0-9]{0,17}|\$|/(?:[^/\\\n]|\\[^\n])+/`
	ends       = `[ \t]*(?:$|[;\n}])`
)

var (
	gap   = regexp.MustCompile(`^[ \t;\n]*`)
	head  = regexp.MustCompile(`^(?:(` + oneAddress + `)(?:,(` + oneAddress + `))?)?[ \t]*(!?)[ \t]*`)
	after = regexp.MustCompile(`^` + ends)
	pairs = regexp.MustCompile(`(?s)\\.`)
	plain = regexp.MustCompile(`^[=dDgGhHnNpPqx]`)
	texts = regexp.MustCompile(`^([aic])[ \t]*([^\n]*)`)
	leads = regexp.MustCompile(`^([bt])[ \t]*([a-zA-Z0-9]{0,20})[ \t]*(?:$|[;\n])`)
	marks = regexp.MustCompile(`^(:)[ \t]*([a-zA-Z0-9]{1,20})[ \t]*(?:$|[;\n])`)
	flags = regexp.MustCompile(`^[gpi0-9]*`)
	digit = regexp.MustCompile(`[0-9]+`)
	step  = regexp.MustCompile(`(?s)^(?:(` + oneAddress + `)(?:,(` + oneAddress + `))?)?(!?)(.)(.*)$`) // as Lines tells it
)

// unclear: what the document does not say clearly; there is nothing to hold against it.
const unclear = "unclear"

// modelCommand is one, with the line of the script on which it begins.
type modelCommand struct {
	line      int
	addresses string
	letter    string
	said      string // from the letter on
}

// modelReader: what is left of a script, and what was read.
type modelReader struct {
	text     string
	line     int
	extended bool
	list     []modelCommand
}

// cut: what an expression takes off the text, and its parts; nil: it does not fit.
func (m *modelReader) cut(x *regexp.Regexp) []string {
	l := x.FindStringSubmatch(m.text)
	if l != nil {
		m.line += strings.Count(l[0], "\n")
		m.text = m.text[len(l[0]):]
	}
	return l
}

// modelRead: what read tells.
func modelRead(script string, extended bool) string {
	if len(script) > 4096 {
		return flawed(0, api.ESCRIPT)
	}
	m := &modelReader{text: script, line: 1, extended: extended}
	for m.cut(gap); m.text != ""; m.cut(gap) {
		line := m.line
		if e := m.command(); e != "" {
			if e == unclear {
				return e
			}
			return strings.Replace(e, "?", strconv.Itoa(line), 1)
		}
	}
	return m.whole()
}

// command: takes one off the text; "": it is one.
func (m *modelReader) command() string {
	const wrong, none = "error 102, line ?", "error 101, line ?"
	c := modelCommand{line: m.line}
	h := m.cut(head)
	c.addresses = strings.TrimSuffix(bare(h[1])+","+bare(h[2]), ",") + h[3]
	bad := !m.compiles(h[1]) || !m.compiles(h[2])
	if m.text == "" {
		return wrong
	}
	c.letter = m.text[:1]
	switch {
	case c.letter == "{":
		m.text = m.text[1:]
		c.said = "{"
	case c.letter == "}":
		if h[0] != "" && strings.Trim(h[0], " \t") != "" {
			return unclear
		}
		m.text = m.text[1:]
		c.said = "}"
		if m.depth() == 0 || after.FindString(m.text) == "" && m.text != "" {
			return wrong
		}
	case plain.MatchString(m.text):
		c.said = m.cut(plain)[0]
		if !after.MatchString(m.text) {
			return wrong
		}
	case texts.MatchString(m.text):
		l := m.cut(texts)
		c.said = l[1] + l[2]
	case leads.MatchString(m.text):
		l := m.cut(regexp.MustCompile(`^([bt])[ \t]*([a-zA-Z0-9]*)`))
		c.said = l[1] + l[2]
	case marks.MatchString(m.text):
		if strings.Trim(h[0], " \t") != "" {
			return unclear
		}
		l := m.cut(regexp.MustCompile(`^(:)[ \t]*([a-zA-Z0-9]*)`))
		c.said = l[1] + l[2]
		for _, d := range m.list {
			if d.said == c.said {
				return wrong
			}
		}
	case c.letter == "s" || c.letter == "y":
		said, good, e := m.parts(c.letter)
		if e != "" {
			return e
		}
		c.said = said
		bad = bad || !good
	default:
		return wrong
	}
	if bad {
		return none
	}
	m.list = append(m.list, c)
	return ""
}

// bare: an address without noughts ahead.
func bare(address string) string {
	if address != "" && address[0] == '0' {
		return strings.TrimLeft(address, "0")
	}
	return address
}

// compiles: is an address's pattern one?
func (m *modelReader) compiles(address string) bool {
	if !strings.HasPrefix(address, "/") {
		return true
	}
	_, e := regex.Compile(unquoted(address[1:len(address)-1], "/"), m.extended, false)
	return e == api.OK
}

// unquoted: with the delimiter alone for \ and the delimiter.
func unquoted(s, delimiter string) string {
	return pairs.ReplaceAllStringFunc(s, func(pair string) string {
		if pair[1:] == delimiter {
			return delimiter
		}
		return pair
	})
}

// depth: how many { are open.
func (m *modelReader) depth() int {
	n := 0
	for _, c := range m.list {
		switch c.letter {
		case "{":
			n++
		case "}":
			n--
		}
	}
	return n
}

// parts: what an s or a y takes: how it is said, and whether its patterns are some.
func (m *modelReader) parts(letter string) (said string, good bool, e string) {
	const wrong = "error 102, line ?"
	if len(m.text) < 2 || m.text[1] == '\n' || m.text[1] == '\\' {
		return "", false, wrong
	}
	d := m.text[1:2]
	q := `\x{` + strconv.FormatInt(int64(d[0]), 16) + `}`
	part := `((?:[^` + q + `\\\n]|\\[^\n])*)`
	l := m.cut(regexp.MustCompile(`^` + letter + q + part + q + part + q))
	if l == nil {
		return "", false, wrong
	}
	said, good = letter+d+l[1]+d+l[2]+d, true
	if letter == "s" {
		f := m.cut(flags)[0]
		order, ok := flagsInOrder(f)
		if !ok || l[1] == "" {
			return "", false, wrong
		}
		said += order
		good = m.replaces(unquoted(l[1], d), unquoted(l[2], d), strings.Contains(f, "i"))
	} else {
		from, ok := modelPlain(l[1], d)
		to, ok2 := modelPlain(l[2], d)
		if !ok || !ok2 {
			return "", false, unclear
		}
		if len(from) != len(to) || twice(from) {
			return "", false, wrong
		}
	}
	if !after.MatchString(m.text) {
		return "", false, wrong
	}
	return said, good, ""
}

// flagsInOrder: g, p, i, number; false: they are none.
func flagsInOrder(f string) (string, bool) {
	order := ""
	for _, l := range list("g", "p", "i") {
		n := strings.Count(f, l)
		if n > 1 {
			return "", false
		}
		order += times(n, l)
	}
	numbers := digit.FindAllString(f, -1)
	if len(numbers) == 0 {
		return order, true
	}
	n, err := strconv.Atoi(numbers[0])
	return order + strconv.Itoa(n), len(numbers) == 1 && err == nil && 1 <= n && n <= 512
}

// replaces: are a pattern and a replacement as they should be?
func (m *modelReader) replaces(pattern, by string, fold bool) bool {
	x, e := regex.Compile(pattern, m.extended, fold)
	if e != api.OK {
		return false
	}
	for _, pair := range pairs.FindAllString(by, -1) {
		if n := int(pair[1]) - '0'; 0 <= n && n <= 9 && (n == 0 || n > x.Groups()) {
			return false
		}
	}
	return true
}

// modelPlain: what a text of y means; false: the document does not say it.
func modelPlain(s, delimiter string) (string, bool) {
	ok := true
	s = pairs.ReplaceAllStringFunc(s, func(pair string) string {
		switch {
		case pair == `\n` && delimiter != "n":
			return "\n"
		case pair == `\\` || pair[1:] == delimiter && delimiter != "n":
			return pair[1:]
		}
		ok = false
		return pair
	})
	return s, ok
}

// twice: does a byte stand twice in it?
func twice(s string) bool {
	for i := range s {
		if strings.Count(s, s[i:i+1]) > 1 {
			return true
		}
	}
	return false
}

// whole: what read tells when all commands are some.
func (m *modelReader) whole() string {
	if m.depth() > 0 {
		return flawed(m.firstOpen(), api.ESCRIPT)
	}
	var b strings.Builder
	for _, c := range m.list {
		b.WriteString(c.addresses + c.said + "\n")
	}
	for _, c := range m.list {
		if (c.letter == "b" || c.letter == "t") && len(c.said) > 1 && !strings.Contains("\n"+b.String(), "\n:"+c.said[1:]+"\n") {
			return flawed(c.line, api.ESCRIPT)
		}
	}
	return b.String()
}

// firstOpen: the line of the first { that is not closed: behind it there are never less } than {.
func (m *modelReader) firstOpen() int {
	for i, c := range m.list {
		if c.letter != "{" {
			continue
		}
		n, closed := 1, false
		for _, d := range m.list[i+1:] {
			switch d.letter {
			case "{":
				n++
			case "}":
				n--
			}
			closed = closed || n == 0
		}
		if !closed {
			return c.line
		}
	}
	return 0
}

// P19.1, P19.4: each short script of some parts tells what the model tells.
func TestShortScripts(t *testing.T) {
	for _, v := range []struct {
		begin string
		most  int
		parts []string
	}{
		{"", 5, list("p", "{", "}", ";", "\n", "1", ",")}, {"", 4, list("p", "{", "}", ";", "\n", " ", "!", "1", ",", "$")},
		{"", 4, list(":a", ":b", "b", "t", "a", ";", "\n", "}", "{", " ", "/(/p")}, {"", 5, list(":a", "ba", "tb", ";", "\n", "{")},
		{"", 5, list("/", "\\", "(", "1", ",", "!", "p", "\n")},
		{"", 4, list("k", "a", "i x", "c;", "}", "{", "\n", "\t", "0", "07", "=", ":", "s/x/\\1/", "s/[/x/", "y/a/b/")},
		{"s", 5, list("/", "|", "\\", "a", "g", "2", "\n", "(")},
		{"s/a/b/", 4, list("g", "p", "i", "0", "1", "51", " ", ";", "}")},
		{"s/(", 5, list("/", "\\", "1", "(", ")", "&", "0", ";")},
		{"y", 5, list("/", "\\", "n", "a", "b", ",", "\n")},
		{"{", 4, list("b", "s,a,b,", "p", "}", " ", ";", "\n", "a", "x")},
	} {
		n := 0
		for _, s := range everyText(v.most, v.parts...) {
			for _, extended := range []bool{false, true} {
				want := modelRead(v.begin+s, extended)
				if want == unclear {
					n++
					continue
				}
				if got := read(v.begin+s, extended); got != want {
					t.Fatalf("%q, %v: %q, want %q", v.begin+s, extended, got, want)
				}
			}
		}
		t.Logf("%q: %d unclear", v.begin, n)
	}
}
