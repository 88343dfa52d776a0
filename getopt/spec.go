package getopt

import (
	"strings"

	"tinsel/api"
)

// What a name is to a spec.
const (
	unknown = iota
	alone
	taking
)

// letters is what a spec says.
type letters struct {
	strict bool   // the first operand ends the options
	alone  string // those without an argument
	taking string // those with one
}

// read: the letters of a spec; false: it is none.
func read(spec string) (letters, bool) {
	body, strict := strings.CutPrefix(spec, "+")
	l := letters{strict: strict}
	for i, c := range body {
		name := body[i : i+1]
		switch {
		case c == ':' && i > 0 && body[i-1] != ':': // the letter ahead of it has looked for it already
		case !mayBeLetter(c) || l.kind(name) != unknown:
			return letters{}, false
		case strings.HasPrefix(body[i+1:], ":"):
			l.taking += name
		default:
			l.alone += name
		}
	}
	return l, true
}

// mayBeLetter: a letter or a digit?
func mayBeLetter(c rune) bool {
	return 'a' <= c && c <= 'z' || 'A' <= c && c <= 'Z' || '0' <= c && c <= '9'
}

// kind: what a name is; one that is not a single byte is unknown, though the letters' texts may contain it.
func (l letters) kind(name string) int {
	switch {
	case len(name) != 1:
		return unknown
	case strings.Contains(l.alone, name):
		return alone
	case strings.Contains(l.taking, name):
		return taking
	}
	return unknown
}

// Usage: a spec as text.
func Usage(spec string) (string, api.Errno) {
	l, ok := read(spec)
	if !ok {
		return "", api.EINVAL
	}
	var parts []string
	if l.alone != "" {
		parts = append(parts, "[-"+l.alone+"]")
	}
	for _, c := range l.taking {
		parts = append(parts, "[-"+string(c)+" arg]")
	}
	return strings.Join(parts, " "), api.OK
}
