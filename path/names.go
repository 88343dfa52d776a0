package path

import (
	"iter"
	"strings"
)

// names: what stands between slashes and is not empty, each with the place
// behind it.
func names(s string) iter.Seq2[int, string] {
	return func(yield func(int, string) bool) {
		begin := 0
		for begin < len(s) {
			end := len(s)
			if n := strings.IndexByte(s[begin:], '/'); n >= 0 {
				end = begin + n
			}
			if end > begin && !yield(end, s[begin:end]) {
				return
			}
			begin = end + 1
		}
	}
}

// left: the names that are left when a path is clean.
func left(s string) []string {
	var l []string
	for _, name := range names(s) {
		switch name {
		case ".":
		case "..":
			if n := len(l); n > 0 && l[n-1] != ".." {
				l = l[:n-1]
				continue
			}
			if absolute(s) {
				continue
			}
			fallthrough
		default:
			l = append(l, name)
		}
	}
	return l
}

// alike: how many names two lists begin with alike.
func alike(a, b []string) int {
	n := 0
	for n < len(a) && n < len(b) && a[n] == b[n] {
		n++
	}
	return n
}

// absolute: does it begin at the root?
func absolute(s string) bool { return strings.HasPrefix(s, "/") }
