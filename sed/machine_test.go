package sed_test

import (
	"math/rand"
	"strconv"
	"strings"
	"testing"

	"tinsel/api"
	"tinsel/regex"
)

// modelStep is a command as the model does it.
type modelStep struct {
	first, second string
	not           bool
	letter, takes string
}

// modelRun is an input on which commands are done, told another way.
type modelRun struct {
	steps       []modelStep
	lines       []string // of the input, as they are
	n           int      // how many of them were read
	quiet       bool
	space, hold string
	later       string
	out         strings.Builder
	count       int
	replaced    bool
	begun       map[int]int // the line on which a command's range has begun
	vague       bool        // the document does not say clearly what is told
}

// tooMuch: why a model's run is stopped.
type tooMuch struct{}

// modelSteps: a program's lines as steps.
func modelSteps(lines []string) []modelStep {
	var list []modelStep
	for _, l := range lines {
		x := step.FindStringSubmatch(l)
		list = append(list, modelStep{x[1], x[2], x[3] != "", x[4], x[5]})
	}
	return list
}

// modelRan: what ran tells; false: the document does not say it clearly.
func modelRan(steps []modelStep, in string, quiet bool) (told string, clear bool) {
	m := &modelRun{steps: steps, quiet: quiet, begun: map[int]int{}}
	m.lines = strings.SplitAfter(in, "\n")
	if end := len(m.lines) - 1; m.lines[end] == "" {
		m.lines = m.lines[:end]
	}
	defer func() {
		if why := recover(); why != nil {
			_ = why.(tooMuch)
			told, clear = m.out.String()+flawed(m.n, api.ESTEPS), !m.vague
		}
	}()
	for m.n < len(m.lines) {
		m.put(m.read(), m.hold)
		if !m.cycle(0) {
			break
		}
	}
	return m.out.String(), !m.vague
}

// read: the next line.
func (m *modelRun) read() string {
	m.n++
	m.replaced = false
	return strings.TrimSuffix(m.lines[m.n-1], "\n")
}

// put: both spaces.
func (m *modelRun) put(space, hold string) {
	m.space, m.hold = space, hold
	if len(space)+len(hold) > 65536 {
		panic(tooMuch{})
	}
}

// feed: the line feed behind the line, if it has one.
func (m *modelRun) feed() string {
	return m.lines[m.n-1][len(strings.TrimSuffix(m.lines[m.n-1], "\n")):]
}

// end: of a cycle, with its space or without.
func (m *modelRun) end(shown bool) {
	if shown && !m.quiet {
		m.out.WriteString(m.space + m.feed())
		m.vague = m.vague || m.later != "" && m.feed() == ""
	}
	m.out.WriteString(m.later)
	m.later = ""
}

// say: a text and a line feed.
func (m *modelRun) say(s string) {
	m.out.WriteString(s + "\n")
	m.vague = m.vague || m.feed() == ""
}

// cycle: from a command on; false: it was the last one.
func (m *modelRun) cycle(i int) bool {
	if i == len(m.steps) {
		m.end(true)
		return true
	}
	if m.count++; m.count > 10000 {
		panic(tooMuch{})
	}
	s := m.steps[i]
	if m.asks(i) == s.not {
		if s.letter == "{" {
			i = m.closing(i)
		}
		return m.cycle(i + 1)
	}
	switch s.letter {
	case "q":
		m.end(true)
		return false
	case "d":
		m.end(false)
		return true
	case "c":
		if begun := m.begun[i]; s.second == "" || s.not || begun == 0 || m.n == len(m.lines) {
			m.out.WriteString(s.takes + "\n")
			m.vague = m.vague || s.second != "" && !s.not && begun > 0
		}
		m.end(false)
		return true
	case "D":
		at := strings.Index(m.space, "\n")
		if at < 0 {
			m.end(false)
			return true
		}
		m.vague = m.vague || m.later != ""
		m.space = m.space[at+1:]
		return m.cycle(0)
	case "n", "N":
		if m.n == len(m.lines) {
			m.end(true)
			return false
		}
		before := m.space + "\n"
		if s.letter == "n" {
			before = ""
		}
		m.end(s.letter == "n")
		m.put(before+m.read(), m.hold)
	case "b", "t":
		if s.letter == "b" || m.replaced {
			m.replaced = m.replaced && s.letter == "b"
			return m.cycle(m.behind(s.takes))
		}
	default:
		m.simple(s)
	}
	return m.cycle(i + 1)
}

// simple: a command behind which the next one comes.
func (m *modelRun) simple(s modelStep) {
	switch s.letter {
	case "=":
		m.out.WriteString(strconv.Itoa(m.n) + "\n")
	case "a":
		m.later += s.takes + "\n"
	case "i":
		m.out.WriteString(s.takes + "\n")
	case "g":
		m.put(m.hold, m.hold)
	case "G":
		m.put(strings.Join(list(m.space, m.hold), "\n"), m.hold)
	case "h":
		m.put(m.space, m.space)
	case "H":
		m.put(m.space, strings.Join(list(m.hold, m.space), "\n"))
	case "x":
		m.put(m.hold, m.space)
	case "p":
		m.say(m.space)
	case "P":
		m.say(strings.Split(m.space, "\n")[0])
	case "s":
		m.substitute(s.takes)
	case "y":
		l := strings.Split(s.takes, s.takes[:1])
		from, _ := modelPlain(l[1], s.takes[:1])
		to, _ := modelPlain(l[2], s.takes[:1])
		var pairs []string
		for k := range from {
			pairs = append(pairs, from[k:k+1], to[k:k+1])
		}
		m.space = strings.NewReplacer(pairs...).Replace(m.space)
	}
}

// substitute: what stands behind an s, whose parts hold no delimiter.
func (m *modelRun) substitute(takes string) {
	l := strings.Split(takes, takes[:1])
	x, _ := regex.Compile(l[1], false, strings.Contains(l[3], "i"))
	n := 1
	if d := digit.FindString(l[3]); d != "" {
		n, _ = strconv.Atoi(d)
	}
	text, done, _ := x.Replace(m.space, l[2], n, strings.Contains(l[3], "g"))
	if done == 0 {
		return
	}
	m.replaced = true
	m.put(text, m.hold)
	if strings.Contains(l[3], "p") {
		m.say(m.space)
	}
}

// closing: where the } of a { stands.
func (m *modelRun) closing(i int) int {
	for depth := 0; ; i++ {
		switch m.steps[i].letter {
		case "{":
			depth++
		case "}":
			depth--
		}
		if depth == 0 {
			return i
		}
	}
}

// behind: a label's place; without one, all.
func (m *modelRun) behind(label string) int {
	for i, s := range m.steps {
		if s.letter == ":" && s.takes == label {
			return i + 1
		}
	}
	return len(m.steps)
}

// asks: is the line one of those that a command's addresses ask for?
func (m *modelRun) asks(i int) bool {
	s := m.steps[i]
	if s.first == "" {
		return true
	}
	if s.second == "" {
		return m.is(s.first)
	}
	end, _ := strconv.Atoi(s.second)
	if from := m.begun[i]; from > 0 {
		over := m.is(s.second)
		m.vague = m.vague || over && from == m.n || end > 0 && end < m.n
		if over {
			m.begun[i] = 0
		}
		return true
	}
	if !m.is(s.first) {
		return false
	}
	if end == 0 || end > m.n {
		m.begun[i] = m.n
	}
	return true
}

// is: does one address fit?
func (m *modelRun) is(address string) bool {
	switch address[0] {
	case '$':
		return m.n == len(m.lines)
	case '/':
		x, _ := regex.Compile(address[1:len(address)-1], false, false)
		return x.Match(m.space)
	}
	return address == strconv.Itoa(m.n)
}

// drawn: one of these.
func drawn(r *rand.Rand, of ...string) string { return of[r.Intn(len(of))] }

// drawnAddress: of a command: none, one or two, and ! or none.
func drawnAddress(r *rand.Rand) string {
	one := func() string {
		return drawn(r, "1", "2", "3", "4", "02", "$", "/a/", "/b/", "/ab*$/", "/^$/", "/a.*b/", "/x/")
	}
	return drawn(r, "", "", "", "", one(), one(), one()+","+one(), one()+","+one(), one()+","+one()) + drawn(r, "", "", "", "", "!", " ! ")
}

// drawnCommand: one that takes all sorts of things.
func drawnCommand(r *rand.Rand) string {
	sub := func() string {
		return drawn(r, "s/a/b/", "s/b/x/", "s/x*/-/", "s,a\\(b*\\),\\1a,", "s/^/\\n/", "s/$/&c/", "s/.//", "s/A/&&/", "s/b$/a\\nb/") + drawn(r, "", "", "", "g", "p", "i", "2", "gp", "2gi", "pi3")
	}
	return drawn(r, "p", "p", "P", "=", "d", "D", "D", "g", "G", "G", "h", "h", "H", "H", "n", "n", "N", "N", "q", "x", "x",
		"a up\n", "i down\n", "c new\n", "a\n", "y/ab/ba/", "y/\\n/+/", "y/x-/\\n\\n/", sub(), sub(), sub(), sub(), sub(),
		"b\n", "t\n", "b l0\n", "b l1\n", "t l0\n", "t l1\n", "t\tl2\n")
}

// drawnScript: some commands, with groups and three labels among them.
func drawnScript(r *rand.Rand) string {
	var parts []string
	for range 1 + r.Intn(6) {
		c := drawnAddress(r) + drawnCommand(r)
		if r.Intn(5) == 0 {
			c = drawnAddress(r) + "{" + c + ";" + drawnAddress(r) + drawnCommand(r) + drawn(r, ";}", "\n}", ";;\t}")
		}
		parts = append(parts, c)
	}
	for k := range 3 {
		at := r.Intn(len(parts) + 1)
		label := ":l" + strconv.Itoa(k)
		parts = append(parts[:at:at], append(list(label), parts[at:]...)...)
	}
	return strings.Join(parts, drawn(r, ";", "\n", " ;; ", ";\n"))
}

// drawnInput: some lines.
func drawnInput(r *rand.Rand) string {
	in := ""
	for range r.Intn(7) {
		in += drawn(r, "a", "b", "ab", "", "aab", "ba", "x", "Ab", "abab") + "\n"
	}
	if r.Intn(4) == 0 {
		in = strings.TrimSuffix(in, "\n")
	}
	return in
}

// P19.2: drawn scripts make of drawn inputs what the model tells.
func TestDrawnScripts(t *testing.T) {
	r := rand.New(rand.NewSource(192))
	compared, stops := 0, 0
	for range 1500 {
		s := drawnScript(r)
		p := parsed(t, s)
		steps := modelSteps(p.Lines())
		for range 2 {
			in, quiet := drawnInput(r), r.Intn(3) == 0
			want, clear := modelRan(steps, in, quiet)
			got := ran(p, in, quiet)
			if !clear {
				continue
			}
			compared++
			if strings.Contains(want, "error") {
				stops++
			}
			if got != want {
				t.Fatalf("%q on %q, quiet %v: %s, want %s", s, in, quiet, brief(got), brief(want))
			}
		}
	}
	if compared < 2500 || stops < 50 {
		t.Errorf("only %d were clear, %d of these stopped", compared, stops)
	}
}

// P19.2: likewise each short script of some commands, on some inputs.
func TestShortPrograms(t *testing.T) {
	for _, parts := range [][]string{
		{"$!N;", "P;", "D;", "p;", "/a/", "2", "x;", "G;"}, {"n;", "N;", "d;", "a u\n", "i v\n", "2,3", "!", "$", "c w\n"}, {"h;", "H;", "g;", "G;", "x;", "p;", "1!", "n;"},
		{":a\n", "ba\n", "ta\n", "t\n", "s/a/b/;", "s/b/c/p;", "/b/", "n;"}, {"{", "p;", "};", "2", "/a/,/b/", "=;", "d;", "!"}, {"/a/,/b/", "2,", "/b/", "$", "p;", "=;", "n;", "!"},
	} {
		for _, s := range everyText(3, parts...) {
			if strings.HasPrefix(read(s, false), "error") {
				continue
			}
			p := parsed(t, s)
			steps := modelSteps(p.Lines())
			for _, in := range list("", "a\n", "a\nb\n", "b\na\na\nb", "a\nb\nab\n\nb\n") {
				for _, quiet := range []bool{false, true} {
					want, clear := modelRan(steps, in, quiet)
					if got := ran(p, in, quiet); clear && got != want {
						t.Fatalf("%q on %q, quiet %v: %s, want %s", s, in, quiet, brief(got), brief(want))
					}
				}
			}
		}
	}
}
