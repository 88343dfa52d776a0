package expr_test

import (
	"cmp"
	"math/big"
	"math/rand"
	"slices"
	"strings"
	"testing"

	"tinsel/api"
	"tinsel/fault"
	"tinsel/regex"
)

// Model of Eval: words from lo to hi are looked at as a whole; every place is tried for the operator.
type chart struct {
	words []string
	known map[[3]int]string
}

// none: what is told of words that are no such part.
const none = "none"

// eval: as the helper of that name tells it.
func modelEval(args []string) string {
	if len(args) > api.MaxWords {
		return usage
	}
	c := chart{args, map[[3]int]string{}}
	got := c.level(0, 0, len(args))
	if got == none {
		return usage
	}
	return got
}

// level: what words come to as operands with operators that bind so much, or more.
func (c chart) level(n, lo, hi int) string {
	if lo >= hi {
		return none
	}
	if n == len(levels) {
		return c.part(lo, hi)
	}
	key := [3]int{n, lo, hi}
	if s, ok := c.known[key]; ok {
		return s
	}
	got := c.level(n+1, lo, hi)
	for at := hi - 2; at > lo && got == none; at-- {
		if slices.Contains(levels[n], c.words[at]) {
			got = doIt(c.words[at], c.level(n, lo, at), c.level(n+1, at+1, hi))
		}
	}
	c.known[key] = got
	return got
}

// part: what they come to as an operand.
func (c chart) part(lo, hi int) string {
	first, n := c.words[lo], hi-lo
	switch {
	case n == 1 && !slices.Contains(append(operators(), "(", ")", "match", "substr", "index", "length"), first):
		return first
	case n == 2 && first == "+":
		return c.words[lo+1]
	case first == "(" && c.words[hi-1] == ")" && n > 2:
		return c.level(0, lo+1, hi-1)
	case first == "length":
		return doIt(first, c.operand(lo+1, hi))
	case first == "match" || first == "index":
		for at := lo + 2; at < hi; at++ {
			if got := doIt(first, c.operand(lo+1, at), c.operand(at, hi)); got != none {
				return got
			}
		}
	case first == "substr":
		for at := lo + 2; at < hi; at++ {
			for to := at + 1; to < hi; to++ {
				if got := doIt(first, c.operand(lo+1, at), c.operand(at, to), c.operand(to, hi)); got != none {
					return got
				}
			}
		}
	}
	return none
}

// operand: without an operator.
func (c chart) operand(lo, hi int) string {
	if lo >= hi {
		return none
	}
	return c.level(len(levels), lo, hi)
}

// doIt: an operation on what its operands came to.
func doIt(op string, of ...string) string {
	if slices.Contains(of, none) {
		return none
	}
	for _, s := range of {
		if isError(s) {
			return s
		}
	}
	switch op {
	case "|", "&":
		return oneOf(op, of[0], of[1])
	case "+", "-", "*", "/", "%":
		return reckon(op, of[0], of[1])
	case ":", "match":
		return begins(of[0], of[1])
	case "index":
		return big.NewInt(int64(1 + strings.IndexFunc(of[0], func(r rune) bool { return strings.ContainsRune(of[1], r) }))).String()
	case "length":
		return big.NewInt(int64(len(of[0]))).String()
	case "substr":
		return cut(of[0], of[1], of[2])
	}
	return compare(op, of[0], of[1])
}

// integral: an integer's text, as a number without an end.
func integral(s string) (*big.Int, bool) {
	if strings.Trim(strings.TrimPrefix(s, "-"), "0123456789") != "" || strings.TrimPrefix(s, "-") == "" {
		return nil, false
	}
	return new(big.Int).SetString(s, 10)
}

// limit: the least number that is too great.
var limit, _ = new(big.Int).SetString(over, 10)

// far: is it too great?
func far(n *big.Int) bool { return n.CmpAbs(limit) >= 0 }

// empty: nothing's text?
func empty(s string) bool {
	n, ok := integral(s)
	return s == "" || ok && n.Sign() == 0
}

// oneOf: of | and &.
func oneOf(op, a, b string) string {
	switch {
	case op == "|" && !empty(a), op == "&" && !empty(a) && !empty(b):
		return a
	case op == "|" && !empty(b):
		return b
	}
	return "0"
}

// unclear is an error of which the chapter does not say plainly which one it is: it is not asked for.
const unclear = "error of one kind or another"

// numbers: both texts as such, or what is wrong with the first one that is none.
func numbers(a, b string) (*big.Int, *big.Int, string) {
	var l [2]*big.Int
	if n, ok := integral(a); ok && far(n) {
		if _, ok := integral(b); !ok {
			return nil, nil, unclear
		}
	}
	for i, s := range list(a, b) {
		n, ok := integral(s)
		if !ok {
			return nil, nil, inval
		}
		if far(n) {
			return nil, nil, ranges
		}
		l[i] = n
	}
	return l[0], l[1], ""
}

// reckon: of + - * / %.
func reckon(op, a, b string) string {
	x, y, e := numbers(a, b)
	if n, ok := integral(b); e == ranges && strings.Contains("/%", op) && ok && n.Sign() == 0 {
		return unclear
	}
	if e != "" {
		return e
	}
	if strings.Contains("/%", op) && y.Sign() == 0 {
		return inval
	}
	z := new(big.Int)
	switch op {
	case "+":
		z.Add(x, y)
	case "-":
		z.Sub(x, y)
	case "*":
		z.Mul(x, y)
	case "/":
		z.Quo(x, y)
	case "%":
		z.Rem(x, y)
	}
	if far(z) {
		return ranges
	}
	return z.String()
}

// compare: of = and the like.
func compare(op, a, b string) string {
	_, ok := integral(a)
	_, ok2 := integral(b)
	order := cmp.Compare(a, b)
	if ok && ok2 {
		x, y, e := numbers(a, b)
		if e != "" {
			return e
		}
		order = x.Cmp(y)
	}
	return map[bool]string{true: "1", false: "0"}[map[string]bool{"=": order == 0, "!=": order != 0, "<": order < 0, "<=": order <= 0, ">": order > 0, ">=": order >= 0}[op]]
}

// begins: of : and match.
func begins(s, pattern string) string {
	r, e := regex.Compile(pattern, false, false)
	if e != api.OK {
		return regexp
	}
	l, ok := r.Find(s, 0)
	groups := strings.Contains(pattern, "\\(")
	if !ok || l[0].Lo > 0 {
		return map[bool]string{false: "0"}[groups]
	}
	if groups {
		return s[max(l[1].Lo, 0):max(l[1].Hi, 0)]
	}
	return big.NewInt(int64(l[0].Hi)).String()
}

// cut: of substr.
func cut(s, p, l string) string {
	n, ok := integral(p)
	m, ok2 := integral(l)
	if !ok || !ok2 {
		return ""
	}
	x, y, e := numbers(p, l)
	if e != "" && min(n.Sign(), m.Sign()) < 1 {
		return unclear
	}
	if e != "" {
		return e
	}
	out := ""
	for i := range len(s) {
		at := big.NewInt(int64(i + 1))
		if x.Sign() > 0 && at.Cmp(x) >= 0 && at.Cmp(new(big.Int).Add(x, y)) < 0 {
			out += s[i : i+1]
		}
	}
	return out
}

// evalIs: does Eval tell what the model tells?
func evalIs(t *testing.T, l []string, want string) {
	t.Helper()
	got := eval(l...)
	if want == unclear && isError(got) {
		return
	}
	told(t, strings.Join(l, " "), got, want)
}

// P18.1: every list of at most four of some words, and of five of fewer.
func TestEvalModelAll(t *testing.T) {
	n := map[bool]int{}
	for _, l := range append(everyList(4, "", "0", "1", "-7", "a", "a1", "|", "&", "=", "<", "+", "-", "*", "%", ":", "(", ")", "match", "substr", "index", "length"), everyList(5, "2", "a", "+", "/", "=", "|", "(", ")", "length", "match")...) {
		want := modelEval(l)
		n[want == usage]++
		if evalIs(t, l, want); t.Failed() {
			return
		}
	}
	if n[true] < 1000 || n[false] < 1000 {
		t.Error("too few: ", n)
	}
}

// drawnEval: words of an expression, mostly.
func drawnEval(r *rand.Rand, depth int) []string {
	operands := list("", "0", "-0", "1", "2", "-3", "12", "007", "a", "ab", "b*", "\\(.\\)", ".*", "[ab]*", most, over, "\\(")
	sub := func() []string { return drawnEval(r, depth-1) }
	simple := func() []string {
		if l := drawnEval(r, depth-1); len(l) == 1 {
			return l
		} else {
			return slices.Concat(list("("), l, list(")"))
		}
	}
	switch n := r.Intn(12); {
	case n < 2 || depth == 0:
		return list(operands[r.Intn(len(operands))])
	case n < 7:
		return slices.Concat(sub(), list(operators()[r.Intn(len(operators()))]), sub())
	case n == 7:
		return slices.Concat(list("("), sub(), list(")"))
	case n == 8:
		return slices.Concat(list(list("match", "index")[r.Intn(2)]), simple(), simple())
	case n == 9:
		return slices.Concat(list("substr"), simple(), simple(), simple())
	case n == 10:
		return append(list("length"), simple()...)
	default:
		return list("+", append(operators(), "(", ")", "match")[r.Intn(15)])
	}
}

// P18.1: drawn expressions, and such as lack a word, or have one that does not belong there.
func TestEvalModelDrawn(t *testing.T) {
	r := rand.New(rand.NewSource(187))
	n := map[string]int{}
	for range 30000 {
		l := drawnEval(r, 4)
		if len(l) > 24 {
			continue
		}
		if r.Intn(5) == 0 {
			at := r.Intn(len(l))
			l = slices.Delete(l, at, at+1)
		}
		if r.Intn(5) == 0 {
			l = slices.Insert(l, r.Intn(len(l)+1), append(operators(), "(", ")", "length", "x")[r.Intn(16)])
		}
		want := modelEval(l)
		n[map[bool]string{true: want}[isError(want)]]++
		if evalIs(t, l, want); t.Failed() {
			return
		}
	}
	for _, kind := range list("", usage, inval, ranges, regexp) {
		if n[kind] < 50 {
			t.Errorf("%q just %d times", kind, n[kind])
		}
	}
}

// Model of Test: words are read one by one; what waits for more stands on a stack.
type machine struct {
	g     *fault.Gate
	left  []string
	stack []string // answers, and ! ( -a -o
}

// modelTest: as the helper named test tells it, of a gate that a call made.
func modelTest(g *fault.Gate, l []string) string {
	n := len(l)
	switch {
	case n > api.MaxWords:
		return usage
	case n == 0:
		return "false"
	case n == 1:
		return yes(l[0] != "")
	case n < 5 && n != 3 && l[0] == "!", n == 3 && l[0] == "!" && !slices.Contains(append(binaries(), "-a", "-o"), l[1]):
		return other(modelTest(g, l[1:]))
	case n == 2 && slices.Contains(unaries(), l[0]):
		return modelUnary(g, l[0], l[1])
	case n == 2:
		return usage
	case n == 3 && slices.Contains(binaries(), l[1]):
		return modelBinary(g, l[0], l[1], l[2])
	case n == 3 && l[1] == "-a":
		return yes(l[0] != "" && l[2] != "")
	case n == 3 && l[1] == "-o":
		return yes(l[0]+l[2] != "")
	case n < 5 && l[0] == "(" && l[n-1] == ")":
		return modelTest(g, l[1:n-1])
	case n == 3:
		return usage
	}
	m := machine{g: g, left: l}
	return m.run()
}

// run: by the grammar.
func (m *machine) run() string {
	for {
		for !m.operand() {
			if len(m.left) == 0 {
				return usage
			}
		}
		m.fold("!")
		for len(m.left) > 0 && m.left[0] == ")" {
			m.fold("!", "-a", "-o")
			n := len(m.stack)
			if n < 2 || m.stack[n-2] != "(" {
				return usage
			}
			m.stack = append(m.stack[:n-2], m.stack[n-1])
			m.left = m.left[1:]
			m.fold("!")
		}
		if len(m.left) == 0 {
			m.fold("!", "-a", "-o")
			if len(m.stack) > 1 {
				return usage
			}
			return m.stack[0]
		}
		switch m.left[0] {
		case "-a":
			m.fold("!", "-a")
		case "-o":
			m.fold("!", "-a", "-o")
		default:
			return usage
		}
		m.stack = append(m.stack, m.left[0])
		m.left = m.left[1:]
	}
}

// operand: one more word, or more: is there an answer on the stack now?
func (m *machine) operand() bool {
	l := m.left
	n := 1
	switch {
	case len(l) == 0:
		return false
	case l[0] == "!", l[0] == "(" && (len(l) < 3 || !slices.Contains(binaries(), l[1])):
		m.stack, m.left = append(m.stack, l[0]), l[1:]
		return false
	case len(l) >= 3 && slices.Contains(binaries(), l[1]):
		m.stack, n = append(m.stack, modelBinary(m.g, l[0], l[1], l[2])), 3
	case len(l) >= 2 && slices.Contains(unaries(), l[0]):
		m.stack, n = append(m.stack, modelUnary(m.g, l[0], l[1])), 2
	default:
		m.stack = append(m.stack, yes(l[0] != ""))
	}
	m.left = l[n:]
	return true
}

// fold: the answer at the end of the stack takes in what stands ahead of it, as long as that is one of these.
func (m *machine) fold(of ...string) {
	for {
		n := len(m.stack)
		if n < 2 || !slices.Contains(of, m.stack[n-2]) {
			return
		}
		last := m.stack[n-1]
		if m.stack[n-2] == "!" {
			m.stack = append(m.stack[:n-2], other(last))
			continue
		}
		first := m.stack[n-3]
		switch {
		case isError(first):
			last = first
		case isError(last):
		case m.stack[n-2] == "-a":
			last = yes(first == "true" && last == "true")
		default:
			last = yes(first == "true" || last == "true")
		}
		m.stack = append(m.stack[:n-3], last)
	}
}

// modelUnary: by the process itself.
func modelUnary(g *fault.Gate, op, word string) string {
	p := g.Proc()
	st, e := p.Stat(word)
	link, _ := p.Lstat(word)
	kind := st.Mode &^ api.PermMask
	if n := strings.Index("-x-w..-r", op); n >= 0 && len(op) == 2 && n%2 == 0 {
		return yes(p.Access(word, []int{1, 2, 0, 4}[n/2]) == api.OK)
	}
	switch op {
	case "-t":
		if _, _, e := numbers(word, "0"); e != "" {
			return e
		}
		return "false"
	case "-n", "-z":
		return yes((word == "") == (op == "-z"))
	case "-h", "-L":
		return yes(link.Mode&^api.PermMask == api.TypeLink)
	}
	return yes(e == api.OK && map[string]bool{"-e": true, "-f": kind == api.TypeReg, "-d": kind == api.TypeDir, "-s": st.Size != 0, "-u": st.Mode&api.SetUid != 0, "-g": st.Mode&api.SetGid != 0, "-k": st.Mode&api.Sticky != 0, "-O": p.Cred().Uid == st.Uid, "-G": p.Cred().Gid == st.Gid}[op])
}

// modelBinary: likewise.
func modelBinary(g *fault.Gate, a, op, b string) string {
	if i := slices.Index(list("-eq", "-ne", "-lt", "-le", "-gt", "-ge"), op); i >= 0 {
		if _, _, e := numbers(a, b); e != "" {
			return e
		}
		return yes(compare(list("=", "!=", "<", "<=", ">", ">=")[i], a, b) == "1")
	}
	x, e := g.Proc().Stat(a)
	y, e2 := g.Proc().Stat(b)
	there := e == api.OK && e2 == api.OK
	return yes(map[string]bool{"=": a == b, "==": a == b, "!=": a != b, "<": a < b, ">": a > b, "-ef": there && x.Ino == y.Ino, "-nt": there && x.Mtime > y.Mtime || e == api.OK && e2 != api.OK, "-ot": there && x.Mtime < y.Mtime || e2 == api.OK && e != api.OK}[op])
}

// modelGate: a gate before a small tree, and one for the model.
func modelGate(t *testing.T) *fault.Gate {
	t.Helper()
	return gate(t, "f /f 3", "d /d", "l /no nowhere", "t /f 100", "t /d 200", "m /f 4640", "d /0", "f /a 0", "m /a 755")
}

// reader tells where parts of an expression may end, if ( and ! may also be plain words.
type reader struct {
	words []string
	known map[[2]int][]int
}

// ends: of parts with -o between them (0), with -a (1), with ! ahead (2), without (3).
func (r reader) ends(kind, from int) []int {
	key := [2]int{kind, from}
	if l, ok := r.known[key]; ok {
		return l
	}
	var all []int
	switch {
	case kind < 2:
		for _, at := range r.ends(kind+1, from) {
			all = append(all, at)
			if at < len(r.words) && r.words[at] == list("-o", "-a")[kind] {
				all = append(all, r.ends(kind, at+1)...)
			}
		}
	case from == len(r.words):
	case kind == 2:
		if r.words[from] == "!" {
			all = append(all, r.ends(2, from+1)...)
		}
		all = append(all, r.ends(3, from)...)
	default:
		all = append(all, from+1)
		if slices.Contains(unaries(), r.words[from]) {
			all = append(all, from+2)
		}
		if from+2 < len(r.words) && slices.Contains(binaries(), r.words[from+1]) {
			all = append(all, from+3)
		}
		for _, at := range r.ends(0, from+1) {
			if r.words[from] == "(" && at < len(r.words) && r.words[at] == ")" {
				all = append(all, at+1)
			}
		}
	}
	slices.Sort(all)
	r.known[key] = slices.Compact(slices.DeleteFunc(all, func(at int) bool { return at > len(r.words) }))
	return r.known[key]
}

// testIs: does Test tell what the model tells? It is not asked for where ( or ! might be a plain word, so that words are an expression that else are none.
func testIs(t *testing.T, g *fault.Gate, l []string, want string) {
	t.Helper()
	got := test(g, l...)
	if want == unclear && isError(got) {
		return
	}
	if want == usage && len(l) >= 4 && (slices.Contains(l, "!") || slices.Contains(l, "(")) {
		r := reader{l, map[[2]int][]int{}}
		if slices.Contains(r.ends(0, 0), len(l)) {
			return
		}
	}
	told(t, strings.Join(l, " "), got, want)
}

// P18.2: every list of at most four of some words, and of five of fewer.
func TestAskModelAll(t *testing.T) {
	g := modelGate(t)
	n := map[bool]int{}
	for _, l := range append(everyList(4, "", "a", "1", "/f", "!", "(", ")", "-a", "-o", "=", "<", "-eq", "-ot", "-n", "-z", "-d", "-t", "-u", "-w"), everyList(5, "", "a", "!", "(", ")", "-a", "-o", "=", "-n")...) {
		want := modelTest(g, l)
		n[want == usage]++
		if testIs(t, g, l, want); t.Failed() {
			return
		}
	}
	if n[true] < 1000 || n[false] < 1000 {
		t.Error("too few: ", n)
	}
}

// P18.2: drawn expressions, and such as lack a word, or have one that does not belong there.
func TestAskModelDrawn(t *testing.T) {
	r := rand.New(rand.NewSource(188))
	g := modelGate(t)
	n := map[string]int{}
	odd := append(append(binaries(), unaries()...), looks...)
	for range 40000 {
		l := drawnTest(r, 4)
		if r.Intn(4) == 0 {
			at := r.Intn(len(l))
			l = slices.Delete(l, at, at+1)
		}
		for r.Intn(4) == 0 {
			l = slices.Insert(l, r.Intn(len(l)+1), odd[r.Intn(len(odd))])
		}
		want := modelTest(g, l)
		n[want]++
		if testIs(t, g, l, want); t.Failed() {
			return
		}
	}
	for _, kind := range list("true", "false", usage, inval, ranges) {
		if n[kind] < 100 {
			t.Errorf("%q just %d times", kind, n[kind])
		}
	}
}
