package find

import (
	"math"
	"strings"

	"tinsel/api"
	"tinsel/glob"
	"tinsel/path"
)

// trial is an expression that is reckoned for a visit.
type trial struct {
	x        *Expr
	v        api.Visit
	now      int64
	statuses []int
	found    api.Found
}

// reckon: the expression's value.
func (t *trial) reckon() bool {
	at := t.x.first
	for at >= 0 {
		s := t.x.steps[at]
		if _, ends := s.test.(quit); ends {
			goto quits
		}
		at = s.no
		if t.holds(s.test) {
			at = s.yes
		}
	}
	return at == isTrue
quits:
	t.found.Quit = true
	return false
}

// holds: is a test true? An action is done.
func (t *trial) holds(is test) bool {
	s := &t.v.Stat
	switch x := is.(type) {
	case fixed:
		return x.is
	case named:
		return t.matches(x)
	case typed:
		return s.Mode&api.TypeMask == x.kind
	case allowed:
		return x.fits(s.Mode & api.PermMask)
	case counted:
		return x.n.fits(x.of(s))
	case sized:
		return x.n.fits(units(s.Size, x.unit))
	case aged:
		return x.n.fits(int(wholes(age(t.now, x.of(s)), x.unit)))
	case newer:
		return x.place < len(t.x.times) && s.Mtime > t.x.times[x.place]
	}
	return t.do(is)
}

// do: does an action; is it true?
func (t *trial) do(is test) bool {
	switch x := is.(type) {
	case shown:
		t.show(x)
	case prune:
		t.found.Prune = !t.x.behind
	case exec:
		return t.run(x.words)
	case gone:
		t.found.Gone = true
	}
	return true
}

// matches: does the path, or its last name, fit a pattern?
func (t *trial) matches(n named) bool {
	s := t.v.Path
	if n.base {
		s = path.Base(s, "")
	}
	return glob.Match(n.pattern, s, n.flags)
}

// show: puts the visit out.
func (t *trial) show(x shown) {
	s := t.v.Path
	if x.long {
		s = Glance(t.v)
	}
	t.found.Out = append(append(t.found.Out, s...), x.end)
}

// run: has a command run; did it go well?
func (t *trial) run(words []string) bool {
	nth := len(t.found.Run)
	command := make([]string, len(words))
	for i, w := range words {
		command[i] = strings.ReplaceAll(w, "{}", t.v.Path)
	}
	t.found.Run = append(t.found.Run, command)
	return nth < len(t.statuses) && t.statuses[nth] == 0
}

// fits: are permission bits as -perm asks?
func (a allowed) fits(bits api.Mode) bool {
	switch a.sign {
	case '-':
		return bits&a.bits == a.bits
	case '/':
		return bits&a.bits != 0 || a.bits == 0
	}
	return bits == a.bits
}

// of: the number that is asked for.
func (c counted) of(s *api.Stat) int {
	switch c.what {
	case "-links":
		return s.Links
	case "-inum":
		return s.Ino
	case "-user", "-uid":
		return s.Uid
	}
	return s.Gid
}

// of: the time that is asked for.
func (a aged) of(s *api.Stat) int64 {
	if a.what == 'a' {
		return s.Atime
	}
	if a.what == 'm' {
		return s.Mtime
	}
	return s.Ctime
}

// units: so many bytes in units, rounded up.
func units(bytes, unit int) int {
	n := bytes / unit
	if bytes%unit > 0 {
		n++
	}
	return n
}

// age: how long ago a time is, as far as there is a number for it.
func age(now, then int64) int64 {
	switch {
	case then > 0 && now < math.MinInt64+then:
		return math.MinInt64
	case then < 0 && now > math.MaxInt64+then:
		return math.MaxInt64
	}
	return now - then
}

// wholes: seconds in a unit, rounded down.
func wholes(seconds, unit int64) int64 {
	n := seconds / unit
	if seconds%unit < 0 {
		n--
	}
	return n
}
