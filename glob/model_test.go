package glob_test

import (
	"fmt"
	"math/big"
	"math/rand"
	"regexp"
	"slices"
	"strings"
	"testing"

	"tinsel/api"
	"tinsel/glob"
)

// The models tell each call another way: items of brackets and of sets by the
// library's patterns, stars by trying every number of bytes, sets by lists.

// wide: each byte as a rune of its own, as the library's patterns go by runes.
func wide(s string) string {
	var r []rune
	for _, c := range []byte(s) {
		r = append(r, rune(c))
	}
	return string(r)
}

// narrow: back again.
func narrow(s string) string {
	var b []byte
	for _, r := range s {
		b = append(b, byte(r))
	}
	return string(b)
}

// part is what a pattern has of one kind: a star, a byte, or several bytes.
type part struct {
	star bool
	only string
	set  string
}

const classNames = "alnum|alpha|blank|cntrl|digit|graph|lower|print|punct|space|upper|xdigit"

var (
	classForm  = regexp.MustCompile(`(?s)^\[:(` + classNames + `):\]`)
	rangeForm  = regexp.MustCompile(`(?s)^(\\.|[^\\])-(\\.|[^\\\]])`)
	byteForm   = regexp.MustCompile(`(?s)^(\\.|\\$|[^\\])`)
	plainRange = regexp.MustCompile(`(?s)^(.)-([^\]])`)
	plainByte  = regexp.MustCompile(`(?s)^(.)`)
)

// last: the byte that a wide text of one or two stands for.
func last(s string) byte {
	n := narrow(s)
	return n[len(n)-1]
}

// modelItems: the bytes of the items of a wide text up to a ], and what stands behind that; false: there is none.
func modelItems(text string, flags int) (string, string, bool) {
	spans, bytes := rangeForm, byteForm
	if flags&plain != 0 {
		spans, bytes = plainRange, plainByte
	}
	set := ""
	for first := true; text != ""; first = false {
		if text[0] == ']' && !first {
			return set, text[1:], true
		}
		if m := classForm.FindStringSubmatch(text); m != nil {
			set, text = set+classes()[m[1]], text[len(m[0]):]
		} else if m := spans.FindStringSubmatch(text); m != nil {
			set, text = set+span(int(last(m[1])), int(last(m[2]))), text[len(m[0]):]
		} else {
			m := bytes.FindString(text)
			set, text = set+string([]byte{last(m)}), text[len(m):]
		}
	}
	return "", "", false
}

// bothCases: a set's letters in both cases, with GlobFold.
func bothCases(set string, flags int) string {
	if flags&fold == 0 {
		return set
	}
	var b []byte
	for _, c := range []byte(set) {
		b = append(b, c)
		if 'a' <= c && c <= 'z' {
			b = append(b, c-32)
		}
		if 'A' <= c && c <= 'Z' {
			b = append(b, c+32)
		}
	}
	return string(b)
}

// modelParts: what a pattern has.
func modelParts(pattern string, flags int) []part {
	var l []part
	for text := wide(pattern); text != ""; {
		set, behind, turned := "", "", false
		ended := false
		if text[0] == '[' {
			items := text[1:]
			if items != "" && (items[0] == '!' || items[0] == '^') {
				items, turned = items[1:], true
			}
			set, behind, ended = modelItems(items, flags)
		}
		switch {
		case ended:
			set = bothCases(set, flags)
			if turned {
				set = allBut(set)
			}
			l, text = append(l, part{set: set}), behind
		case text[0] == '*':
			l, text = append(l, part{star: true}), text[1:]
		case text[0] == '?':
			l, text = append(l, part{set: allBut("")}), text[1:]
		default:
			form := byteForm
			if flags&plain != 0 {
				form = plainByte
			}
			m := form.FindString(text)
			l, text = append(l, part{only: bothCases(string([]byte{last(m)}), flags)}), text[len(m):]
		}
	}
	return l
}

// allBut: the bytes that are not in a text.
func allBut(set string) string {
	var b []byte
	for c := range 256 {
		if strings.IndexByte(set, byte(c)) < 0 {
			b = append(b, byte(c))
		}
	}
	return string(b)
}

// closed: does no star, ? or bracket match the byte at a place?
func closed(s string, i, flags int) bool {
	if s[i] == '/' {
		return flags&path != 0
	}
	begin := i == 0 || flags&path != 0 && s[i-1] == '/'
	return s[i] == '.' && begin && flags&period != 0
}

// modelMatch: do the parts match s from a place on? Every number of bytes is tried for every star.
func modelMatch(parts []part, s string, i, flags int) bool {
	if len(parts) == 0 {
		return i == len(s)
	}
	p, rest := parts[0], parts[1:]
	if p.star {
		if modelMatch(rest, s, i, flags) {
			return true
		}
		return i < len(s) && !closed(s, i, flags) && modelMatch(parts, s, i+1, flags)
	}
	if i == len(s) {
		return false
	}
	in := strings.IndexByte(p.only, s[i]) >= 0 || strings.IndexByte(p.set, s[i]) >= 0 && !closed(s, i, flags)
	return in && modelMatch(rest, s, i+1, flags)
}

// checkMatch: a pattern matches those of some texts that the model says.
func checkMatch(t *testing.T, pattern string, flags int, texts []string) {
	t.Helper()
	parts := modelParts(pattern, flags)
	var want []string
	for _, s := range texts {
		if modelMatch(parts, s, 0, flags) {
			want = append(want, s)
		}
	}
	if got := glob.Filter(pattern, flags, texts...); !slices.Equal(got, want) {
		t.Errorf("Filter(%q, %d): %.200q, want %.200q", pattern, flags, got, want)
	}
}

// P12.1: every short pattern of brackets' bytes.
func TestModelBrackets(t *testing.T) {
	texts := everyText("ab-]\\[!", 2)
	for _, p := range everyText("ab-]\\[!", 5) {
		if strings.Contains(p, "[") || len(p) < 4 {
			checkMatch(t, p, 0, texts)
			checkMatch(t, p, plain, texts)
		}
	}
	texts = everyText("ab-]\\[!", 3)
	for _, p := range everyText("a-]\\[*", 4) {
		checkMatch(t, p, 0, texts)
	}
}

// P12.1: every short pattern with slashes, periods and letters, and all flags.
func TestModelFlags(t *testing.T) {
	texts := everyText("./aA", 4)
	for _, p := range everyText("*?./a", 4) {
		for flags := range 16 {
			checkMatch(t, p, flags, texts)
		}
	}
	words := []string{"*", "?", "[.]", "[/]", "[!b]", "[A-C]", "[[:lower:]]", "\\", ".", "/", "a"}
	texts = everyText("./aB\\", 3)
	for _, p := range everyList(words, 3) {
		for flags := range 16 {
			checkMatch(t, p, flags, texts)
		}
	}
}

// drawn: words put together by a seeded source.
func drawn(r *rand.Rand, words []string, most int) string {
	s := ""
	for range r.Intn(most + 1) {
		s += words[r.Intn(len(words))]
	}
	return s
}

// P12.1: longer patterns, drawn from a fixed seed.
func TestModelDrawnPatterns(t *testing.T) {
	r := rand.New(rand.NewSource(12))
	words := []string{"*", "*", "?", "[", "]", "[!", "[^", "-", "a", "b", "B", "z", ".", "/", "\\", ":", "[:", ":]", "[:digit:]", "[[:digit:]]", "[[:upper:]]", "[[:x:]]", "[a-c]", "[!a]", "[]", "5", "\x80", "\xff", "[\x80-\xff]"}
	letters := []string{"a", "b", "B", "z", ".", "/", "\\", ":", "[", "]", "-", "!", "5", "\x80", "\xff", "a", "b"}
	for range 30000 {
		p, flags := drawn(r, words, 9), r.Intn(16)
		var texts []string
		for range 20 {
			texts = append(texts, drawn(r, letters, 6))
		}
		texts = append(texts, matching(r, modelParts(p, flags), letters))
		checkMatch(t, p, flags, texts)
	}
}

// matching: a text that some parts are likely to match.
func matching(r *rand.Rand, parts []part, letters []string) string {
	s := ""
	for _, p := range parts {
		switch one := p.only + p.set; {
		case p.star:
			s += drawn(r, letters, 3)
		case one != "":
			i := r.Intn(len(one))
			s += one[i : i+1]
		}
	}
	return s
}

const letterForm = `(\\[0-7]{1,3}|\\[^0-7]|\\$|[^\\])`

var (
	setClass  = regexp.MustCompile(`(?s)^\[:(.*?):\]`)
	setEqual  = regexp.MustCompile(`(?s)^\[=` + letterForm + `=\]`)
	setRepeat = regexp.MustCompile(`(?s)^\[` + letterForm + `\*(0[0-7]*|[1-9][0-9]*|)\]`)
	setRange  = regexp.MustCompile(`(?s)^` + letterForm + `-` + letterForm)
	setByte   = regexp.MustCompile(`(?s)^` + letterForm)
)

// letter: what such a form stands for.
func letter(s string) byte {
	s = narrow(s)
	if len(s) == 1 {
		return s[0]
	}
	if i := strings.IndexByte("abtnvfr", s[1]); i >= 0 {
		return "\a\b\t\n\v\f\r"[i]
	}
	if s[1] < '0' || s[1] > '7' {
		return s[1]
	}
	n := new(big.Int)
	n.SetString(s[1:], 8)
	return byte(n.Int64() % 256)
}

// run is a byte, some times; below 0: as often as it takes.
type run struct {
	c byte
	n *big.Int
}

// modelRuns: what a set's text has; false: it is none, whatever the size.
func modelRuns(text string) ([]run, bool) {
	var l []run
	one, fills := big.NewInt(1), 0
	each := func(s string) {
		for _, c := range []byte(s) {
			l = append(l, run{c, one})
		}
	}
	for text = wide(text); text != ""; {
		var m []string
		if m = setClass.FindStringSubmatch(text); m != nil {
			bytes, ok := classes()[narrow(m[1])]
			if !ok {
				return nil, false
			}
			each(bytes)
		} else if m = setEqual.FindStringSubmatch(text); m != nil {
			each(string([]byte{letter(m[1])}))
		} else if m = setRepeat.FindStringSubmatch(text); m != nil {
			n, _ := new(big.Int).SetString("0"+m[2], map[bool]int{true: 8, false: 10}[strings.HasPrefix(m[2], "0")])
			if n.Sign() == 0 {
				n, fills = big.NewInt(-1), fills+1
			}
			l = append(l, run{letter(m[1]), n})
		} else if m = setRange.FindStringSubmatch(text); m != nil {
			if letter(m[2]) < letter(m[1]) {
				return nil, false
			}
			each(span(int(letter(m[1])), int(letter(m[2]))))
		} else {
			m = setByte.FindStringSubmatch(text)
			each(string([]byte{letter(m[1])}))
		}
		text = text[len(m[0]):]
	}
	return l, fills < 2
}

// modelSet: the bytes of runs that make a size.
func modelSet(s string, size int) ([]byte, api.Errno) {
	l, ok := modelRuns(s)
	if !ok {
		return nil, api.EINVAL
	}
	all := new(big.Int)
	for _, x := range l {
		if x.n.Sign() < 0 && size < 0 {
			return nil, api.EINVAL
		}
		if x.n.Sign() > 0 {
			all.Add(all, x.n)
		}
	}
	missing := new(big.Int).Sub(big.NewInt(int64(size)), all)
	if missing.Sign() < 0 {
		missing.SetInt64(0)
	}
	var b []byte
	for _, x := range l {
		n := x.n
		if n.Sign() < 0 {
			n = missing
		}
		if n.Cmp(big.NewInt(api.MaxSet)) > 0 || len(b)+int(n.Int64()) > api.MaxSet {
			return nil, api.ERANGE
		}
		b = append(b, strings.Repeat(string([]byte{x.c}), int(n.Int64()))...)
	}
	return b, api.OK
}

// checkSet: Set answers what the model does.
func checkSet(t *testing.T, s string, sizes ...int) {
	t.Helper()
	for _, size := range sizes {
		if got, want := answer(glob.Set(s, size)), answer(modelSet(s, size)); got != want {
			t.Errorf("Set(%s, %d): %s, want %s", brief(s), size, brief(got), brief(want))
		}
	}
}

// P12.2: every short text.
func TestModelSets(t *testing.T) {
	for _, s := range everyText("[]:=*-\\a0", 4) {
		checkSet(t, s, -1, 0, 3)
	}
	for _, s := range everyText("[]=*\\", 5) {
		checkSet(t, s, -1, 6)
	}
}

// P12.2: longer texts, drawn from a fixed seed.
func TestModelDrawnSets(t *testing.T) {
	r := rand.New(rand.NewSource(122))
	words := []string{"[", "]", ":", "=", "*", "-", "\\", "a", "c", "Z", "0", "1", "8", "[:", ":]", "[=", "=]", "[:digit:]", "[:blank:]", "[:x:]", "[=a=]", "[=\\n=]", "[x*3]", "[x*012]", "[y*]", "[z*0]", "[x*5000]", "[x*4090]", "[x*99999999999999999999]", "a-c", "\\101", "\\400", "\\n", "\x80-\xff", "\xff"}
	sizes := []int{-1, 0, 1, 10, 50, api.MaxSet, api.MaxSet + 1, 1 << 40}
	for range 20000 {
		checkSet(t, drawn(r, words, 6), sizes[r.Intn(len(sizes))])
	}
}

// modelMap: Translate, Delete and Squeeze by looking each byte up in the lists.
func modelMap(s, from, to string) string {
	moved, kept, squeezed := "", "", ""
	for i := range len(s) {
		at, c := strings.IndexByte(from, s[i]), s[i:i+1]
		switch {
		case at < 0:
			moved += c
		case at < len(to):
			moved += to[at : at+1]
		case to != "":
			moved += to[len(to)-1:]
		}
		if at < 0 {
			kept += c
		}
		if at < 0 || !strings.HasSuffix(s[:i], c) {
			squeezed += c
		}
	}
	if to == "" && from != "" {
		return fmt.Sprintf("%q %d %q %q", "", int(api.EINVAL), kept, squeezed)
	}
	return fmt.Sprintf("%q %d %q %q", moved, 0, kept, squeezed)
}

// P12.3: every short text with every short pair of sets.
func TestModelMaps(t *testing.T) {
	sets := everyText("abc", 3)
	for _, s := range everyText("abcd", 4) {
		for i, from := range sets {
			to := sets[(i*7+len(s))%len(sets)]
			b, e := glob.Translate([]byte(s), []byte(from), []byte(to))
			got := answer(b, e) + fmt.Sprintf(" %q %q", glob.Delete([]byte(s), []byte(from)), glob.Squeeze([]byte(s), []byte(from)))
			is(t, fmt.Sprintf("%q by %q, %q", s, from, to), got, modelMap(s, from, to))
		}
	}
}
