package perm_test

import (
	"fmt"
	"regexp"
	"slices"
	"strings"
	"testing"

	"tinsel/api"
	"tinsel/perm"
)

// In the models a mode is a list of words, one for each bit: whose it is and
// what for. Clauses are told apart by patterns.
var words = strings.Fields("us gs ot ur uw ux gr gw gx or ow ox")

var (
	digits = regexp.MustCompile(`^[0-7]{1,4}$`)
	clause = `[ugoa]*([-+=]([rwxXst]*|[ugo]))+`
	listOf = regexp.MustCompile(`^` + clause + `(,` + clause + `)*$`)
	parts  = regexp.MustCompile(`^([ugoa]*)(.*)$`)
	action = regexp.MustCompile(`[-+=]([rwxXst]+|[ugo])?`)
)

// wordsOf: the words of a number's bits.
func wordsOf(n int) (l []string) {
	for i, c := range fmt.Sprintf("%012b", n&0o7777) {
		if c == '1' {
			l = append(l, words[i])
		}
	}
	return l
}

// numberOf: the bits of words.
func numberOf(l []string) (m api.Mode) {
	for i, w := range words {
		if slices.Contains(l, w) {
			m |= 1 << (11 - i)
		}
	}
	return m
}

// modelWho: the words that may change by a clause with these letters.
func modelWho(letters string, umask int) (l []string) {
	masked := wordsOf(umask)
	for _, w := range words {
		if strings.Contains(letters, w[:1]) || strings.Contains(letters, "a") || letters == "" && !slices.Contains(masked, w) {
			l = append(l, w)
		}
	}
	return l
}

// modelWhat: the words that the letters behind a sign stand for.
func modelWhat(letters string, now []string, maybeX bool) (l []string) {
	if letters != "" && strings.Contains("ugo", letters) {
		for _, w := range words {
			if strings.Contains("rwx", w[1:]) && slices.Contains(now, letters+w[1:]) {
				l = append(l, w)
			}
		}
		return l
	}
	if maybeX {
		letters = strings.ReplaceAll(letters, "X", "x")
	}
	for _, w := range words {
		if strings.Contains(letters, w[1:]) {
			l = append(l, w)
		}
	}
	return l
}

// modelChange: the answer to Change.
func modelChange(text string, old api.Mode, umask int) (api.Mode, api.Errno) {
	kind := old & 0o170000
	if digits.MatchString(text) {
		var n int
		fmt.Sscanf(text, "%o", &n)
		return kind + api.Mode(n), api.OK
	}
	if !listOf.MatchString(text) {
		return 0, api.EINVAL
	}
	now := wordsOf(int(old))
	maybeX := kind == 0o040000 || slices.ContainsFunc(now, func(w string) bool { return w[1] == 'x' })
	for _, c := range strings.Split(text, ",") {
		p := parts.FindStringSubmatch(c)
		who := modelWho(p[1], umask)
		for _, a := range action.FindAllString(p[2], -1) {
			what := modelWhat(a[1:], now, maybeX)
			var next []string
			for _, w := range words {
				has, mine, said := slices.Contains(now, w), slices.Contains(who, w), slices.Contains(what, w)
				if mine && a[0] == '=' || mine && said {
					has = said && a[0] != '-'
				}
				if has {
					next = append(next, w)
				}
			}
			now = next
		}
	}
	return kind + numberOf(now), api.OK
}

// modelText: the answer to Text.
func modelText(m api.Mode) string {
	kind := map[api.Mode]string{0o040000: "d", 0o120000: "l", 0o010000: "p", 0o100000: "-"}[m&0o170000]
	if kind == "" {
		kind = "?"
	}
	l := wordsOf(int(m))
	has := func(w string) bool { return slices.Contains(l, w) }
	s := kind
	for _, who := range []string{"us", "gs", "ot"} {
		for _, what := range []string{"r", "w"} {
			if has(who[:1] + what) {
				s += what
			} else {
				s += "-"
			}
		}
		switch x := has(who[:1] + "x"); {
		case has(who) && x:
			s += who[1:]
		case has(who):
			s += strings.ToUpper(who[1:])
		case x:
			s += "x"
		default:
			s += "-"
		}
	}
	return s
}

// sameChange: Change answers as the model does.
func sameChange(t *testing.T, text string, old api.Mode, umask int) {
	t.Helper()
	m, e := perm.Change(text, old, umask)
	if n, f := modelChange(text, old, umask); m != n || e != f {
		t.Fatalf("Change(%q, %#o, %#o): %#o, %v, want %#o, %v", text, int(old), umask, int(m), e, int(n), f)
	}
}

// P5.1: Text and Octal of all modes; and Parse of all texts of types that are ones.
func TestTextModel(t *testing.T) {
	texts := map[string]api.Mode{}
	for m := range api.Mode(0o200000) {
		s := modelText(m)
		is(t, fmt.Sprintf("Text(%#o)", int(m)), perm.Text(m), s)
		is(t, fmt.Sprintf("Octal(%#o)", int(m)), perm.Octal(m), fmt.Sprintf("%04o", int(m)%0o10000))
		if s[0] != '?' {
			texts[s] = m
		}
	}
	d := dice(1)
	const letters = "-?dlprwxsStT"
	for range 300000 {
		b := []byte(modelText(api.Mode(d.below(0o200000))))
		for range d.below(3) {
			b[d.below(len(b))] = letters[d.below(len(letters))]
		}
		if m, ok := texts[string(b)]; ok {
			parses(t, string(b), m)
		} else {
			noMode(t, string(b))
		}
	}
}

// P5.2: Change by all short texts.
func TestChangeModelOfShortTexts(t *testing.T) {
	d := dice(2)
	for _, text := range everyText("ugoa+-=rwxXst,078", 4) {
		sameChange(t, text, api.Mode(d.below(0o200000)), d.below(0o1000))
	}
	for _, text := range everyText("u+=gxX,", 6) {
		sameChange(t, text, 0o100640, 0o022)
	}
}

// P5.2: Change by clauses that are good ones, but for one letter now and then.
func TestChangeModelOfClauses(t *testing.T) {
	d := dice(3)
	pick := func(from string, n int) (s string) {
		for range n {
			s += from[d.below(len(from)):][:1]
		}
		return s
	}
	good := 0
	for range 100000 {
		var l []string
		for range 1 + d.below(3) {
			c := pick("ugoa", d.below(3))
			for range 1 + d.below(3) {
				c += pick("+-=", 1)
				if d.below(3) == 0 {
					c += pick("ugo", 1)
				} else {
					c += pick("rwxXst", d.below(4))
				}
			}
			l = append(l, c)
		}
		text := strings.Join(l, ",")
		if i := d.below(len(text)); d.below(5) == 0 {
			text = text[:i] + pick("ugoa+-=rwxXst,0\xff", d.below(2)) + text[i+1:]
		}
		old, umask := api.Mode(d.below(0o200000)), d.below(0o10000)
		sameChange(t, text, old, umask)
		if _, e := perm.Change(text, old, umask); e == api.OK {
			good++
		}
	}
	yes(t, "most texts are good ones", good > 80000, true)
}

// P5.3: Access of all permission bits.
func TestAccessModel(t *testing.T) {
	for m := range api.Mode(0o10000) {
		for i, c := range []api.Cred{root, theOwner, ofGroup, member, other} {
			who := []string{"", "u", "g", "g", "o"}[i]
			l := wordsOf(int(m))
			for want := range 8 {
				for _, kind := range []api.Mode{api.TypeDir, api.TypeReg} {
					ok := true
					for j, w := range []string{"x", "w", "r"} {
						if want>>j%2 == 0 {
							continue
						}
						if who != "" {
							ok = ok && slices.Contains(l, who+w)
						} else if w == "x" && kind != api.TypeDir {
							ok = slices.Contains(l, "ux") || slices.Contains(l, "gx") || slices.Contains(l, "ox")
						}
					}
					if perm.Access(kind|m, owner, group, c, want) != ok {
						t.Fatalf("Access(%#o, %d, %d, %v, %d): want %v", int(kind|m), owner, group, c, want, ok)
					}
				}
			}
		}
	}
}
