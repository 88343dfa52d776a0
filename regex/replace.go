package regex

import (
	"strings"

	"tinsel/api"
)

// part is a piece of a replacement: a text, and behind it what a group took (0: the whole; below 0: nothing).
type part struct {
	text  string
	group int
}

// Replace: the matches from the n-th on are replaced; all of them, or one.
func (r *Regex) Replace(s, by string, n int, all bool) (string, int, api.Errno) {
	if !r.made() {
		return "", 0, api.EFAULT
	}
	if n < 1 {
		return "", 0, api.EINVAL
	}
	parts, ok := r.parts(by)
	if !ok {
		return "", 0, api.EREGEX
	}
	var out []byte
	end, seen, done := 0, 0, 0
	for m := range r.All(s) {
		seen++
		if seen < n {
			continue
		}
		out = append(out, s[end:m[0].Lo]...)
		out = fill(out, parts, s, m)
		end = m[0].Hi
		done++
		if !all {
			break
		}
	}
	return string(append(out, s[end:]...)), done, api.OK
}

// parts: what a replacement is made of; false: it is none.
func (r *Regex) parts(by string) ([]part, bool) {
	var list []part
	var text []byte
	add := func(group int) {
		list = append(list, part{string(text), group})
		text = nil
	}
	for i := 0; i < len(by); i++ {
		if by[i] == '&' {
			add(0)
			continue
		}
		if by[i] != '\\' {
			text = append(text, by[i])
			continue
		}
		i++
		switch {
		case i == len(by):
			return nil, false
		case isDigit(by[i]):
			group := int(by[i] - '0')
			if group == 0 || group > r.groups {
				return nil, false
			}
			add(group)
		case by[i] == 'n':
			text = append(text, '\n')
		default:
			text = append(text, by[i])
		}
	}
	add(-1)
	return list, true
}

// fill: a replacement of a match in s behind what there is.
func fill(out []byte, parts []part, s string, m []api.Span) []byte {
	for _, p := range parts {
		out = append(out, p.text...)
		if p.group >= 0 && m[p.group].Lo >= 0 {
			out = append(out, s[m[p.group].Lo:m[p.group].Hi]...)
		}
	}
	return out
}

// Quote: a pattern that matches just a text.
func Quote(s string, extended bool) string {
	special := `.[\*^$`
	if extended {
		special += "()|+?{"
	}
	var b []byte
	for i := range len(s) {
		if strings.IndexByte(special, s[i]) >= 0 {
			b = append(b, '\\')
		}
		b = append(b, s[i])
	}
	return string(b)
}
