package number

import "tinsel/api"

// read: the number that a text is in a base, if it is at most top.
func read(s string, base, top int) (int, api.Errno) {
	if !plain(s, base) {
		return 0, api.EINVAL
	}
	n, fits := value(s, base, top)
	if !fits {
		return 0, api.ERANGE
	}
	return n, api.OK
}

// plain: one or more digits of a base, and nothing else?
func plain(s string, base int) bool {
	for _, r := range s {
		if r < '0' || r >= '0'+rune(base) {
			return false
		}
	}
	return s != ""
}

// value: the number that digits tell; false: it is above top. No digit is above a top, so that the difference is none below 0.
func value(digits string, base, top int) (int, bool) {
	n := 0
	for _, r := range digits {
		d := int(r - '0')
		if n > (top-d)/base { // ahead of the product, which might wrap
			return 0, false
		}
		n = n*base + d
	}
	return n, true
}

// significant: digits without the noughts ahead; nothing is left of a nought.
func significant(digits string) string {
	for i, r := range digits {
		if r != '0' {
			return digits[i:]
		}
	}
	return ""
}

// smaller: is the number of one's digits below that of another's, however great they are?
func smaller(one, other string) bool {
	one, other = significant(one), significant(other)
	if len(one) != len(other) {
		return len(one) < len(other)
	}
	return one < other
}

// cut: what stands ahead of the first mark, and what behind it; false: there is none, all is ahead.
func cut(s string, mark rune) (string, string, bool) {
	for i, r := range s {
		if r == mark {
			return s[:i], s[i+1:], true
		}
	}
	return s, "", false
}
