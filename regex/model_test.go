package regex_test

import (
	"fmt"
	"math"
	"math/rand"
	"regexp"
	"strconv"
	"strings"
	"testing"

	"tinsel/api"
)

// The model tells each call another way: a pattern is cut into tokens by the
// library's patterns, every way is tried one after the other as the chapter
// has them, and of all that come to the longest match the first one counts.

// part is what a pattern is made of.
type part struct {
	kind     byte   // s: a byte of set; ^ and $; g: a group of kids[0]; r: a row of kids; |: branches; *: rounds of kids[0]
	set      string // the bytes that it takes
	number   int    // of a group
	lo, hi   int    // rounds
	from, to int    // the groups inside
	kids     []*part
}

// wide: each byte as a rune of its own, as the library's patterns go by runes.
func wide(s string) string {
	var r []rune
	for _, c := range []byte(s) {
		r = append(r, rune(c))
	}
	return string(r)
}

// narrow: back again.
func narrow(s string) string {
	var b []byte
	for _, r := range s {
		b = append(b, byte(r))
	}
	return string(b)
}

const (
	braceForm = `(\d{1,3})(?:(,)(\d{1,3})?)?`
	classForm = `\[:(?:alpha|digit|alnum|upper|lower|space|blank|punct|print|graph|cntrl|xdigit):\]`
)

var (
	basicToken    = regexp.MustCompile(`(?s)^(?:(\\[.\[\\*^$/])|(\\\(|\\\)|\*)|\\\{` + braceForm + `\\\}|([^\\\[]))`)
	extendedToken = regexp.MustCompile(`(?s)^(?:(\\[.\[\\*^$/()|+?{}])|([()|*+?])|\{` + braceForm + `\}|([^\\\[{]))`)
	classToken    = regexp.MustCompile(`(?s)^` + classForm)
	rangeToken    = regexp.MustCompile(`(?s)^(.)-([^\]])`)
)

// token is a piece of a pattern's text: c: a byte that stands for itself; [: a set; {: rounds; o: another one, in text.
type token struct {
	kind   byte
	text   string
	lo, hi int
}

// modelTokens: a pattern's tokens; false: it is no pattern.
func modelTokens(p string, isExtended bool) ([]token, bool) {
	form := basicToken
	if isExtended {
		form = extendedToken
	}
	var l []token
	for rest := wide(p); rest != ""; {
		if rest[0] == '[' {
			set, behind, ok := modelBracket(rest[1:])
			if !ok {
				return nil, false
			}
			l, rest = append(l, token{kind: '[', text: set}), behind
			continue
		}
		m := form.FindStringSubmatch(rest)
		switch {
		case m == nil:
			return nil, false
		case m[1] != "":
			l = append(l, token{kind: 'c', text: m[1][1:]})
		case m[2] != "":
			l = append(l, token{kind: 'o', text: strings.TrimPrefix(m[2], "\\")})
		case m[3] != "":
			lo, _ := strconv.Atoi(m[3])
			hi := lo
			if m[4] != "" {
				hi = 1 << 30
			}
			if m[5] != "" {
				hi, _ = strconv.Atoi(m[5])
			}
			if lo > hi || lo > 255 || hi > 255 && hi < 1<<30 {
				return nil, false
			}
			l = append(l, token{kind: '{', lo: lo, hi: hi})
		case m[6] == "^" || m[6] == "$" || m[6] == ".":
			l = append(l, token{kind: 'o', text: m[6]})
		default:
			l = append(l, token{kind: 'c', text: narrow(m[6])})
		}
		rest = rest[len(m[0]):]
	}
	if isExtended {
		return l, true
	}
	return basicMeanings(l), true
}

// basicMeanings: what has no meaning where it stands in a basic pattern becomes a byte.
func basicMeanings(l []token) []token {
	is := func(i int, text string) bool { return i >= 0 && i < len(l) && l[i].kind == 'o' && l[i].text == text }
	begins := func(i int) bool { return i == 0 || is(i-1, "(") }
	out := append([]token(nil), l...)
	for i := range l {
		switch {
		case is(i, "^") && !begins(i), is(i, "$") && i+1 < len(l) && !is(i+1, ")"):
			out[i].kind = 'c'
		case is(i, "*") && (begins(i) || is(i-1, "^") && begins(i-1)):
			out[i].kind = 'c'
		}
	}
	return out
}

// modelBracket: the bytes of the items of a wide text up to a ], and what stands behind that; false: it is no bracket.
func modelBracket(text string) (string, string, bool) {
	turned := strings.HasPrefix(text, "^")
	text = strings.TrimPrefix(text, "^")
	set := ""
	for first := true; text != ""; first = false {
		if text[0] == ']' && !first {
			if turned {
				set = without(set)
			}
			return set, text[1:], true
		}
		m := classToken.FindString(text)
		ends := rangeToken.FindStringSubmatch(text)
		named := len(text) > 1 && text[0] == '[' && strings.IndexByte(":.=", text[1]) >= 0
		switch {
		case m != "":
			set, text = set+classes()[m[2:len(m)-2]], text[len(m):]
			if strings.HasPrefix(text, "-") && !strings.HasPrefix(text, "-]") {
				return "", "", false
			}
		case named:
			return "", "", false
		case ends != nil:
			lo, hi := narrow(ends[1])[0], narrow(ends[2])[0]
			behind := text[len(ends[0]):]
			if hi < lo || hi == '[' && behind != "" && strings.IndexByte(":.=", behind[0]) >= 0 {
				return "", "", false
			}
			set, text = set+span(int(lo), int(hi)), behind
		case text[0] == '-' && !first && !strings.HasPrefix(text, "-]"):
			return "", "", false
		default:
			c := []rune(text)[0]
			set, text = set+string([]byte{byte(c)}), text[len(string(c)):]
		}
	}
	return "", "", false
}

// modelReader makes parts of tokens.
type modelReader struct {
	l      []token
	groups int
	bad    bool
}

func (r *modelReader) next(text string) bool {
	if len(r.l) > 0 && r.l[0].kind == 'o' && r.l[0].text == text {
		r.l = r.l[1:]
		return true
	}
	return false
}

// pattern: branches, up to a ) or the end.
func (r *modelReader) pattern() *part {
	out := &part{kind: '|'}
	for {
		row := &part{kind: 'r'}
		for len(r.l) > 0 && !r.bad && !(r.l[0].kind == 'o' && strings.Contains("|)", r.l[0].text)) {
			row.kids = append(row.kids, r.piece())
		}
		out.kids = append(out.kids, row)
		if r.bad || !r.next("|") {
			return out
		}
	}
}

// piece: an atom and what repeats it.
func (r *modelReader) piece() *part {
	from := r.groups
	x := &part{kind: 's'}
	t := r.l[0]
	r.l = r.l[1:]
	switch {
	case t.kind == 'c' || t.kind == '[':
		x.set = t.text
	case t.kind == '{' || strings.Contains("*+?", t.text):
		r.bad = true
	case t.text == ".":
		x.set = span(0, 255)
	case t.text == "^" || t.text == "$":
		x.kind = t.text[0]
	case t.text == "(":
		r.groups++
		x.kind, x.number = 'g', r.groups
		x.kids = []*part{r.pattern()}
		r.bad = r.bad || !r.next(")")
	}
	for len(r.l) > 0 && !r.bad {
		lo, hi, ok := rounds(r.l[0])
		if !ok {
			break
		}
		r.l = r.l[1:]
		r.bad = x.kind == '^' || x.kind == '$'
		x = &part{kind: '*', lo: lo, hi: hi, from: from, to: r.groups, kids: []*part{x}}
	}
	return x
}

// rounds: those of a token that repeats.
func rounds(t token) (lo, hi int, ok bool) {
	switch {
	case t.kind == '{':
		return t.lo, t.hi, true
	case t.kind != 'o':
		return 0, 0, false
	case t.text == "*":
		return 0, 1 << 30, true
	case t.text == "+":
		return 1, 1 << 30, true
	case t.text == "?":
		return 0, 1, true
	}
	return 0, 0, false
}

// modelRead: a pattern's parts, and how many groups it has; nil: it is none. (The patterns of these tests are short: sizes are told elsewhere.)
func modelRead(p string, kind int) (*part, int) {
	l, ok := modelTokens(p, kind&extended != 0)
	if !ok {
		return nil, 0
	}
	r := modelReader{l: l}
	x := r.pattern()
	if r.bad || len(r.l) > 0 {
		return nil, 0
	}
	if kind&fold != 0 {
		foldParts(x)
	}
	return x, r.groups
}

// foldParts: letters of both sizes. (Sets that were turned round are not asked for with fold here.)
func foldParts(x *part) {
	x.set += strings.ToLower(ascii(x.set)) + strings.ToUpper(ascii(x.set))
	for _, k := range x.kids {
		foldParts(k)
	}
}

// ascii: the bytes below 128.
func ascii(s string) string {
	var b []byte
	for _, c := range []byte(s) {
		if c < 128 {
			b = append(b, c)
		}
	}
	return string(b)
}

// stepsLeft: how many steps the model may do yet; it panics behind the last one.
var stepsLeft = math.MaxInt

// ways: every way through a part from a place on is told, the preferred ones first.
func ways(x *part, s string, i int, groups []api.Span, tell func(i int, groups []api.Span)) {
	if stepsLeft--; stepsLeft == 0 {
		panic("too many steps")
	}
	switch x.kind {
	case 's':
		if i < len(s) && strings.IndexByte(x.set, s[i]) >= 0 {
			tell(i+1, groups)
		}
	case '^', '$':
		if x.kind == '^' && i == 0 || x.kind == '$' && i == len(s) {
			tell(i, groups)
		}
	case 'g':
		ways(x.kids[0], s, i, groups, func(j int, groups []api.Span) {
			l := append([]api.Span(nil), groups...)
			l[x.number] = api.Span{Lo: i, Hi: j}
			tell(j, l)
		})
	case '|':
		for _, k := range x.kids {
			ways(k, s, i, groups, tell)
		}
	case 'r':
		if len(x.kids) == 0 {
			tell(i, groups)
			return
		}
		rest := &part{kind: 'r', kids: x.kids[1:]}
		ways(x.kids[0], s, i, groups, func(j int, groups []api.Span) { ways(rest, s, j, groups, tell) })
	case '*':
		roundWays(x, s, i, 0, groups, tell)
	}
}

// roundWays: likewise, of a repetition that has done n rounds.
func roundWays(x *part, s string, i, n int, groups []api.Span, tell func(i int, groups []api.Span)) {
	if n < x.hi {
		l := append([]api.Span(nil), groups...)
		for k := x.from + 1; k <= x.to; k++ {
			l[k] = api.Span{Lo: -1, Hi: -1}
		}
		ways(x.kids[0], s, i, l, func(j int, groups []api.Span) {
			if j > i || n < x.lo {
				roundWays(x, s, j, n+1, groups, tell)
			}
		})
	}
	if n >= x.lo {
		tell(i, groups)
	}
}

// modelFind: the match that begins leftmost, of these the longest, of its ways the first.
func modelFind(x *part, groups int, s string, from int) ([]api.Span, bool) {
	for i := from; i <= len(s); i++ {
		none := make([]api.Span, groups+1)
		for k := range none {
			none[k] = api.Span{Lo: -1, Hi: -1}
		}
		var best []api.Span
		ways(x, s, i, none, func(j int, l []api.Span) {
			if best == nil || j > best[0].Hi {
				best = append([]api.Span(nil), l...)
				best[0] = api.Span{Lo: i, Hi: j}
			}
		})
		if best != nil {
			return best, true
		}
	}
	return nil, false
}

// modelAll: the matches one behind the other.
func modelAll(x *part, groups int, s string) string {
	out, end := "", -1
	for from := 0; from <= len(s); {
		m, ok := modelFind(x, groups, s, from)
		if !ok {
			break
		}
		if m[0].Lo == m[0].Hi && m[0].Lo == end {
			from++
			continue
		}
		out += fmt.Sprint(m)
		end, from = m[0].Hi, m[0].Hi
	}
	return out
}

// checkPattern: a pattern says of some texts what the model does; false: it is no pattern.
func checkPattern(t *testing.T, p string, kind int, texts []string) bool {
	t.Helper()
	r, e := compile(p, kind)
	x, groups := modelRead(p, kind)
	if (x == nil) != (e == api.EREGEX) || (r == nil) != (x == nil) {
		t.Errorf("%q, kind %d: %v, but the model: %v", p, kind, e, x != nil)
		return false
	}
	if x == nil {
		return false
	}
	if r.Groups() != groups {
		t.Errorf("%q, kind %d: %d groups, want %d", p, kind, r.Groups(), groups)
	}
	for _, s := range texts {
		is(t, fmt.Sprintf("%q, kind %d, All in %q", p, kind, s), all(r, s), modelAll(x, groups, s))
		m, ok := modelFind(x, groups, s, 0)
		if got := r.Match(s); got != ok {
			t.Errorf("%q, kind %d: Match(%q) %v", p, kind, s, got)
		}
		if want := ok && m[0] == (api.Span{Lo: 0, Hi: len(s)}); r.Whole(s) != want {
			t.Errorf("%q, kind %d: Whole(%q) %v", p, kind, s, !want)
		}
		for from := 1; from <= len(s); from++ {
			is(t, fmt.Sprintf("%q, kind %d, from %d in %q", p, kind, from, s), spans(r.Find(s, from)), spans(modelFind(x, groups, s, from)))
		}
		if ok && !strings.ContainsAny(p, "^$") && !r.Whole(s[m[0].Lo:m[0].Hi]) { // P13.6
			t.Errorf("%q, kind %d: not the whole of what was found in %q", p, kind, s)
		}
	}
	return true
}

// P13.1, P13.2, P13.6: every short text of bytes with a meaning, as a pattern.
func TestModelShortPatterns(t *testing.T) {
	texts := everyText("a*^$", 2)
	for _, p := range everyText("a*^$()|\\", 5) {
		if strings.Count(p, "a") < 3 {
			checkPattern(t, p, extended, texts)
		}
	}
	for _, p := range everyList([]string{"a", "*", "^", "$", "\\(", "\\)", "\\{1\\}", "{", "|", "\\"}, 5) {
		if strings.Count(p, "a") < 3 {
			checkPattern(t, p, basic, texts)
		}
	}
	texts = []string{"", "a", "aa", "aaa", "a{1}", "a}"}
	for _, p := range everyText("a{}1,(", 5) {
		checkPattern(t, p, extended, texts)
		checkPattern(t, "a"+p, basic, texts)
	}
	for _, p := range everyText("\\{}1,", 6) {
		checkPattern(t, "a"+p, basic, texts)
	}
}

// P13.1: every short text as a bracket.
func TestModelBrackets(t *testing.T) {
	texts := append(everyText("ab-]^[:\\.", 1), "a]", "-]", "[a]", "]]")
	for _, p := range everyText("ab-]^[:\\.", 4) {
		checkPattern(t, "["+p, basic, texts)
		checkPattern(t, "["+p+"]", extended, texts)
	}
	for _, p := range everyList([]string{"a", "c", "-", "]", "[", "^", "[:digit:]", "[:x:]", "[:", "[=", ":]"}, 3) {
		checkPattern(t, "["+p+"]", basic, append(texts, "7", "c", "b"))
	}
}

// P13.1, P13.2, P13.6: every short pattern of branches, groups and repetitions.
func TestModelWays(t *testing.T) {
	texts := everyText("ab", 3)
	for _, p := range everyList([]string{"a", "b", "(", ")", "|", "*", "+", "?"}, 6) {
		if strings.Contains(p, "(") || len(p) < 5 {
			if strings.Count(p, "(") == strings.Count(p, ")") {
				checkPattern(t, p, extended, texts)
			}
		}
	}
}

// drawn: words put together by a seeded source.
func drawn(r *rand.Rand, words []string, most int) string {
	s := ""
	for range 1 + r.Intn(most) {
		s += words[r.Intn(len(words))]
	}
	return s
}

// words are what patterns are drawn from.
type words struct{ atoms, repeats []string }

var (
	mixed = words{
		[]string{"a", "b", "a", "b", ".", "[ab]", "[^a]", "c"},
		[]string{"", "", "", "*", "+", "?", "{0}", "{2}", "{1,}", "{2,}", "{0,2}", "{1,2}", "*?", "{2}*", "+{2}"},
	}
	hollow = words{ // many ways that take nothing
		[]string{"a", "b", "()", "a*", ".?", "(|a)", "(^)", "($)", "(a|)"},
		[]string{"", "", "*", "+", "+", "?", "{2}", "{1,}", "{2,}", "{0,2}", "{1,2}", "{2}*", "+{2}", "{2}+", "{2}?"},
	}
)

// pattern: one that is a pattern, with groups in one another.
func (w words) pattern(r *rand.Rand, depth int) string {
	branch := func() string {
		s := ""
		for range r.Intn(4) {
			atom := w.atoms[r.Intn(len(w.atoms))]
			if depth > 0 && r.Intn(3) == 0 {
				atom = "(" + w.pattern(r, depth-1) + ")"
			}
			if depth > 0 && r.Intn(15) == 0 {
				s += []string{"^", "$"}[r.Intn(2)]
			}
			s += atom + w.repeats[r.Intn(len(w.repeats))]
		}
		return s
	}
	s := branch()
	for r.Intn(3) == 0 {
		s += "|" + branch()
	}
	return s
}

// drawnPatterns: as many patterns as are asked for say what the model does. Those with too many ways for the model are left out.
func drawnPatterns(t *testing.T, w words, seed int64, most int) {
	r := rand.New(rand.NewSource(seed))
	for done := 0; done < most; {
		p := w.pattern(r, 3)
		x, groups := modelRead(p, extended)
		if x == nil {
			t.Fatalf("%q is none", p)
		}
		if groups > 20 {
			continue
		}
		texts := []string{""}
		for range 4 {
			texts = append(texts, drawn(r, []string{"a", "b", "b", "a", "c", "ab", "ba"}, 4))
		}
		few := true
		for _, s := range texts {
			few = few && fewWays(x, s)
		}
		if few && checkPattern(t, p, extended, texts) {
			done++
		}
	}
}

// P13.1, P13.2, P13.6: longer patterns, drawn from fixed seeds.
func TestModelDrawnPatterns(t *testing.T) {
	drawnPatterns(t, mixed, 13, 3000)
	drawnPatterns(t, hollow, 14, 3000)
}

// fewWays: can the model try them all in a short time?
func fewWays(x *part, s string) (few bool) {
	defer func() {
		few = recover() == nil
		stepsLeft = math.MaxInt
	}()
	stepsLeft = 20000
	for i := range len(s) + 1 {
		ways(x, s, i, make([]api.Span, 21), func(int, []api.Span) {})
	}
	return true
}

// P13.1: texts that may be patterns, or not, drawn from a fixed seed, of all kinds.
func TestModelDrawnTexts(t *testing.T) {
	r := rand.New(rand.NewSource(131))
	words := []string{"a", "b", "B", ".", "*", "+", "?", "|", "(", ")", "^", "$", "\\(", "\\)", "(a)", "\\(b\\)", "\\.", "\\*", "\\", "[ab]", "[a-c]", "[[:digit:]]", "{1}", "{0,2}", "\\{1\\}", "\\{0,2\\}", "]", "}", "\xff", "\x00", "7"}
	letters := []string{"a", "b", "A", "B", "c", ".", "*", "^", "$", "(", ")", "]", "7", "\xff", "\x00", "{1}", "+"}
	patterns := 0
	for range 30000 {
		p, kind := drawn(r, words, 7), r.Intn(4)
		var texts []string
		for range 3 {
			texts = append(texts, drawn(r, letters, 5))
		}
		if checkPattern(t, p, kind, texts) {
			patterns++
		}
	}
	if patterns < 5000 {
		t.Errorf("only %d patterns", patterns)
	}
}

// P13.1: the whole of a match is that of the library's leftmost longest patterns, on longer texts, where both have the same.
func TestAgainstTheLibrary(t *testing.T) {
	r := rand.New(rand.NewSource(1313))
	checked := 0
	for checked < 4000 {
		p := mixed.pattern(r, 4)
		theirs, err := regexp.CompilePOSIX(p)
		ours, e := compile(p, extended)
		if err != nil || e != api.OK {
			continue // several repetitions behind one atom are none there
		}
		checked++
		for range 5 {
			s := drawn(r, []string{"a", "b", "b", "a", "c", "ab", "ba"}, 40)
			want := "false 0"
			if m := theirs.FindStringIndex(s); m != nil {
				want = pairs(m...)
			}
			l, ok := ours.Find(s, 0)
			is(t, fmt.Sprintf("%q in %q", p, s), spans(l[:min(len(l), 1)], ok), want)
		}
	}
}
