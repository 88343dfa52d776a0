package find_test

import (
	"fmt"
	"math"
	"math/bits"
	"math/rand"
	"slices"
	"strings"
	"testing"

	"tinsel/api"
	"tinsel/find"
)

// node is an expression of the model: op is -a, -o, a comma, ! (of right alone), or empty: a leaf of these words.
type node struct {
	op          string
	left, right *node
	leaf        leaf
}

// leaf is a test or an action of the model: its words, and what it does.
type leaf struct {
	words string
	do    func(m *model) bool
}

// model is what is known, and what was done so far.
type model struct {
	v        api.Visit
	now      int64
	statuses []int
	behind   bool
	f        api.Found
}

// quits is thrown by the model's -quit.
type quits struct{}

// value: the value of an expression of the model.
func (m *model) value(n *node) bool {
	switch n.op {
	case "!":
		return !m.value(n.right)
	case "-a":
		return m.value(n.left) && m.value(n.right)
	case "-o":
		return m.value(n.left) || m.value(n.right)
	case ",":
		m.value(n.left)
		return m.value(n.right)
	}
	return n.leaf.do(m)
}

// try: what the model finds of a visit that is reckoned.
func (m *model) try(n *node) (f api.Found) {
	defer func() {
		if why := recover(); why != nil {
			_ = why.(quits)
			f = m.f
			f.Quit = true
		}
	}()
	is := m.value(n)
	m.f.True = is
	return m.f
}

// text: an expression of the model written out.
func (n *node) text() string {
	switch n.op {
	case "":
		return n.leaf.words
	case "!":
		return "! " + n.right.text()
	}
	return "( " + n.left.text() + " " + n.op + " " + n.right.text() + " )"
}

// acts: has it an action other than -prune?
func (n *node) acts() bool {
	if n.op != "" {
		return n.left != nil && n.left.acts() || n.right.acts()
	}
	return slices.Contains(split("-print -print0 -ls -quit -exec -delete"), split(n.leaf.words)[0])
}

// whole: with the -print that stands behind an expression without an action.
func (n *node) whole() *node {
	if n.acts() {
		return n
	}
	return &node{op: "-a", left: n, right: &node{leaf: single("-print")}}
}

// single: a leaf of one word.
func single(word string) leaf {
	l := leaf{words: word}
	switch word {
	case "-true", "-depth":
		l.do = func(*model) bool { return true }
	case "-false":
		l.do = func(*model) bool { return false }
	case "-print":
		l.do = func(m *model) bool { m.f.Out = append(m.f.Out, m.v.Path+"\n"...); return true }
	case "-print0":
		l.do = func(m *model) bool { m.f.Out = append(m.f.Out, m.v.Path+"\x00"...); return true }
	case "-ls":
		l.do = func(m *model) bool { m.f.Out = append(m.f.Out, find.Glance(m.v)+"\n"...); return true }
	case "-prune":
		l.do = func(m *model) bool { m.f.Prune = !m.behind; return true }
	case "-delete":
		l.do = func(m *model) bool { m.f.Gone = true; return true }
	case "-quit":
		l.do = func(*model) bool { panic(quits{}) }
	}
	return l
}

// spans reads lists by the grammar's words: each kind of expression is asked for of a span of the list, by all ways to part it.
type spans struct{ words []string }

func (s spans) list(i, j int) *node { return s.bound(",", i, j, s.list, s.or, s.or) }

func (s spans) or(i, j int) *node { return s.bound("-o", i, j, s.and, s.or, s.and) }

func (s spans) and(i, j int) *node {
	for k := i + 1; k < j; k++ {
		if l, r := s.and(i, k), s.not(k, j); l != nil && r != nil {
			return &node{op: "-a", left: l, right: r}
		}
	}
	return s.bound("-a", i, j, s.and, s.not, s.not)
}

// bound: one part alone, or two of them with a sign between.
func (s spans) bound(sign string, i, j int, left, right, alone func(i, j int) *node) *node {
	for k := i; k < j; k++ {
		if s.words[k] != sign {
			continue
		}
		if l, r := left(i, k), right(k+1, j); l != nil && r != nil {
			return &node{op: sign, left: l, right: r}
		}
	}
	return alone(i, j)
}

func (s spans) not(i, j int) *node {
	switch {
	case i >= j:
		return nil
	case s.words[i] == "!":
		if n := s.not(i+1, j); n != nil {
			return &node{op: "!", right: n}
		}
		return nil
	case s.words[i] == "(" && s.words[j-1] == ")":
		return s.list(i+1, j-1)
	case j-i > 1:
		return nil
	}
	l := single(s.words[i])
	if l.do == nil {
		return nil
	}
	return &node{leaf: l}
}

// everyList: each list of at most so many of some words.
func everyList(most int, words []string, see func([]string)) {
	var list []string
	var add func()
	add = func() {
		see(list)
		if len(list) == most {
			return
		}
		for _, w := range words {
			list = append(list, w)
			add()
			list = list[:len(list)-1]
		}
	}
	add()
}

// modelOf: what the model reads of words of which each is a leaf or a sign: roots, and the expression; nil: none.
func modelOf(words []string) (string, *node) {
	n := slices.IndexFunc(words, func(w string) bool { return w != ")" && w != "x" })
	if n < 0 {
		n = len(words)
	}
	roots := fmt.Sprintf("%q", words[:n])
	if n == 0 {
		roots = `["."]`
	}
	if n == len(words) {
		return roots, &node{leaf: single("-true")}
	}
	return roots, spans{words[n:]}.list(0, len(words)-n)
}

// P20.1, P20.2: every short list of words is read as the grammar has it, and does what the model does.
func TestEveryShortList(t *testing.T) {
	count := 0
	compare := func(l []string) {
		want, n := modelOf(l)
		roots, x, e := find.Parse(l)
		if n == nil {
			if roots != nil || x != nil || e != api.EUSAGE {
				t.Errorf("%q: %q, %s, %d", l, roots, x, int(e))
			}
			return
		}
		count++
		whole := n.whole()
		agree(t, fmt.Sprintf("%q", l), fmt.Sprintf("%q %s %d", roots, x, int(e)), want+" "+whole.text()+" 0")
		m := model{v: file("p"), behind: slices.Contains(l, "-delete") || slices.Contains(l, "-depth")}
		agree(t, fmt.Sprintf("%q tried", l), says(x.Try(m.v, 0, nil)), says(m.try(whole)))
	}
	everyList(5, split("( ) ! , -o -a -true -print x"), compare)
	everyList(4, split("( ) ! , -o -a -true -false -print -print0 -quit -prune -delete -depth"), compare)
	everyList(6, split("( ) ! -o -false -print"), compare)
	everyList(7, split("-o -a , ! -print"), compare)
	if count < 5000 {
		t.Errorf("only %d expressions", count)
	}
}

// cases draws expressions and visits.
type cases struct{ *rand.Rand }

func (c cases) pick(l ...string) string { return l[c.Intn(len(l))] }

// number: one that is near the others.
func (c cases) number() int {
	return []int{0, 0, 1, 1, 2, 3, 59, 60, 512, 1024, c.Intn(5000)}[c.Intn(11)]
}

// draw: an expression of the model of at most so many parts in one another.
func (c cases) draw(deep int) *node {
	switch r := c.Intn(9); {
	case deep == 0 || r < 2:
		return &node{leaf: c.leaf()}
	case r < 3:
		return &node{op: "!", right: c.draw(deep - 1)}
	default:
		return &node{op: c.pick("-a", "-a", "-o", "-o", ","), left: c.draw(deep - 1), right: c.draw(deep - 1)}
	}
}

// leaf: one of any kind.
func (c cases) leaf() leaf {
	switch c.Intn(6) {
	case 0:
		return c.counting()
	case 1:
		return c.aging()
	case 2:
		return c.permitting()
	case 3:
		return c.naming()
	case 4:
		return single(c.pick("-print", "-print0", "-ls", "-prune", "-delete", "-quit", "-depth", "-true", "-false"))
	}
	return c.executing()
}

// compare: a text of an N, and what it asks of a number.
func (c cases) compare() (string, func(int) bool) {
	n := c.number()
	switch text := c.pick("", "0", "000") + fmt.Sprint(n); c.Intn(3) {
	case 0:
		return "+" + text, func(i int) bool { return i > n }
	case 1:
		return "-" + text, func(i int) bool { return i < n }
	default:
		return text, func(i int) bool { return i == n }
	}
}

func (c cases) counting() leaf {
	text, asks := c.compare()
	if c.Intn(3) == 0 {
		letter := c.pick("c", "w", "k", "b", "")
		unit := map[string]int{"c": 1, "w": 2, "k": 1024, "b": 512, "": 512}[letter]
		return leaf{"-size " + text + letter, func(m *model) bool { return asks((m.v.Stat.Size + unit - 1) / unit) }}
	}
	name := c.pick("-links", "-inum", "-user", "-uid", "-group", "-gid")
	return leaf{name + " " + text, func(m *model) bool {
		s := m.v.Stat
		return asks(map[string]int{"-links": s.Links, "-inum": s.Ino, "-user": s.Uid, "-uid": s.Uid, "-group": s.Gid, "-gid": s.Gid}[name])
	}}
}

func (c cases) aging() leaf {
	text, asks := c.compare()
	letter, name := c.pick("m", "a", "c"), c.pick("time", "min")
	return leaf{"-" + letter + name + " " + text, func(m *model) bool {
		s := m.v.Stat
		past := float64(m.now - map[string]int64{"m": s.Mtime, "a": s.Atime, "c": s.Ctime}[letter])
		return asks(int(math.Floor(past / map[string]float64{"time": 86400, "min": 60}[name])))
	}}
}

func (c cases) permitting() leaf {
	if c.Intn(2) == 0 {
		letter := c.pick("f", "d", "l", "p")
		kind := map[string]api.Mode{"f": 8, "d": 4, "l": 10, "p": 1}[letter]
		return leaf{"-type " + letter, func(m *model) bool { return m.v.Stat.Mode>>12&15 == kind }}
	}
	want := uint(c.Intn(0o10000)) & uint(c.Intn(0o10000)) & uint(c.Intn(0o10000))
	sign := c.pick("", "-", "/")
	return leaf{fmt.Sprintf("-perm %s%04o", sign, want), func(m *model) bool {
		has := uint(m.v.Stat.Mode) % 0o10000
		both := bits.OnesCount(has & want)
		switch sign {
		case "-":
			return both == bits.OnesCount(want)
		case "/":
			return both > 0 || bits.OnesCount(want) == 0
		}
		return bits.OnesCount(has^want) == 0
	}}
}

// naming: a test of an end, a beginning or a part of the name or the path.
func (c cases) naming() leaf {
	name, what := c.pick("-name", "-iname", "-path", "-ipath"), c.pick("a", "B", "c", ".c", "ab", "A")
	how := c.pick("%", "*%", "%*", "*%*")
	return leaf{name + " " + strings.ReplaceAll(how, "%", what), func(m *model) bool {
		s, want := m.v.Path, what
		if !strings.HasSuffix(name, "path") {
			s = s[strings.LastIndexByte(s, '/')+1:]
		}
		if strings.HasPrefix(name, "-i") {
			s, want = strings.ToLower(s), strings.ToLower(want)
		}
		switch how {
		case "%":
			return s == want
		case "*%":
			return strings.HasSuffix(s, want)
		case "%*":
			return strings.HasPrefix(s, want)
		}
		return strings.Contains(s, want)
	}}
}

func (c cases) executing() leaf {
	words := c.pick("a", "a {}", "{}{} b", "x{}y {")
	return leaf{"-exec " + words + " ;", func(m *model) bool {
		var run []string
		for _, w := range split(words) {
			run = append(run, strings.Join(strings.Split(w, "{}"), m.v.Path))
		}
		m.f.Run = append(m.f.Run, run)
		n := len(m.f.Run)
		return len(m.statuses) >= n && m.statuses[n-1] == 0
	}}
}

// words: an expression of the model as somebody may write it, where parts of at least such a rank stand: 0 lists, 1 -o, 2 -a, 3 one part. Brackets stand where they must, and now and then where they need not.
func (c cases) words(n *node, rank int) string {
	s, own := n.leaf.words, 3
	switch n.op {
	case "!":
		s = "! " + c.words(n.right, 3)
	case ",":
		s, own = c.words(n.left, 0)+" , "+c.words(n.right, 1), 0
	case "-o":
		s, own = c.words(n.left, 2)+" -o "+c.words(n.right, 1), 1
	case "-a":
		s, own = c.words(n.left, 2)+c.pick(" ", " -a ")+c.words(n.right, 3), 2
	}
	if own < rank || c.Intn(12) == 0 {
		return "( " + s + " )"
	}
	return s
}

// visit: one of any kind.
func (c cases) visit() api.Visit {
	return api.Visit{
		Kind: c.Intn(7), Path: c.pick("", "/", "/x/", "ab/") + c.pick("a", "b", "ab", "abc", "x.c", "A.C", "bA"), Depth: c.Intn(3),
		Stat: api.Stat{
			Ino: c.number(), Links: c.number(), Uid: c.number(), Gid: c.number(), Size: c.number(), Mode: api.Mode(c.Intn(0o200000)),
			Mtime: int64(c.number()), Atime: int64(c.number()) - 1000, Ctime: int64(c.number()) - 86400,
		},
	}
}

// P20.1, P20.2: drawn expressions are written out as the model's, and find what the model finds in drawn visits.
func TestDrawnExpressions(t *testing.T) {
	c := cases{rand.New(rand.NewSource(20))}
	quit, ran := 0, 0
	for range 12000 {
		n := c.draw(c.Intn(5))
		args := c.words(n, 0)
		x, whole := of(t, args), n.whole()
		agree(t, args, x.String(), whole.text())
		_, _, behind := x.Depths()
		has := func(w string) bool { return strings.Contains(" "+args+" ", " "+w+" ") }
		if behind != (has("-depth") || has("-delete")) {
			t.Errorf("%s: behind %v", args, behind)
		}
		for range 6 {
			m := model{v: c.visit(), now: int64(c.number() * 50), behind: behind}
			for range c.Intn(4) {
				m.statuses = append(m.statuses, c.Intn(3)/2)
			}
			want := "false"
			if m.v.Kind == api.VisitFile || m.v.Kind == api.VisitPre && !behind || m.v.Kind == api.VisitPost && behind {
				f := m.try(whole)
				want = says(f)
				ran += len(f.Run)
				if f.Quit {
					quit++
				}
			}
			agree(t, fmt.Sprintf("%s of %+v at %d, %v", args, m.v, m.now, m.statuses), says(x.Try(m.v, m.now, m.statuses)), want)
		}
	}
	if quit < 500 || ran < 5000 {
		t.Errorf("only %d times quit, %d times run", quit, ran)
	}
}
