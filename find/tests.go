package find

import (
	"strings"

	"tinsel/api"
	"tinsel/number"
	"tinsel/perm"
)

// Units of times.
const (
	day    = 86400
	minute = 60
)

// test: a test of this name, with its arguments, or an action.
func (r *reader) test(name string) test {
	switch name {
	case "-true", "-false":
		return fixed{is: name == "-true"}
	case "-depth", "-mindepth", "-maxdepth":
		return r.walkTest(name)
	case "-name", "-path":
		return named{pattern: r.next(), base: name == "-name"}
	case "-iname", "-ipath":
		return named{pattern: r.next(), base: name == "-iname", flags: api.GlobFold}
	case "-type":
		return typed{kind: kindOf(r.next())}
	case "-perm":
		sign, bits := bitsOf(r.next())
		return allowed{sign: sign, bits: bits}
	case "-links", "-inum", "-user", "-group", "-uid", "-gid":
		return counted{what: name, n: countOf(r.next())}
	case "-size":
		unit, n := sizeOf(r.next())
		return sized{unit: unit, n: n}
	case "-mtime", "-atime", "-ctime":
		return aged{what: name[1], unit: day, n: countOf(r.next())}
	case "-mmin", "-amin", "-cmin":
		return aged{what: name[1], unit: minute, n: countOf(r.next())}
	case "-newer":
		r.x.newer = append(r.x.newer, r.next())
		return newer{place: len(r.x.newer) - 1}
	}
	return r.action(name)
}

// walkTest: one that says how the walk goes; it is always true.
func (r *reader) walkTest(name string) test {
	switch name {
	case "-depth":
		r.x.behind = true
	case "-mindepth":
		r.x.least = depthOf(r.next())
	default:
		r.x.most = depthOf(r.next())
	}
	return fixed{is: true}
}

// action: an action of this name, with its arguments.
func (r *reader) action(name string) test {
	switch name {
	case "-print":
		return shown{end: '\n'}
	case "-print0":
		return shown{end: 0}
	case "-ls":
		return shown{long: true, end: '\n'}
	case "-prune":
		return prune{}
	case "-quit":
		return quit{}
	case "-exec":
		return exec{words: r.command()}
	case "-delete":
		r.x.behind = true
		return gone{}
	}
	giveUp()
	return nil
}

// command: the words up to a semicolon, of which there must be one.
func (r *reader) command() []string {
	begin := r.at
	for r.next() != ";" {
	}
	words := r.words[begin : r.at-1]
	if len(words) == 0 {
		giveUp()
	}
	return words
}

// kindOf: the type that a letter stands for.
func kindOf(s string) api.Mode {
	kinds := [...]api.Mode{api.TypeReg, api.TypeDir, api.TypeLink, api.TypePipe}
	i := strings.Index("fdlp", s)
	if len(s) != 1 || i < 0 {
		giveUp()
	}
	return kinds[i]
}

// signOf: the sign, of these, that a text begins with, and what stands behind it.
func signOf(s, signs string) (byte, string) {
	if s != "" && strings.IndexByte(signs, s[0]) >= 0 {
		return s[0], s[1:]
	}
	return 0, s
}

// bitsOf: a mode's bits with a sign, or without one. (A - that begins it is the sign, though a mode may begin so.)
func bitsOf(s string) (byte, api.Mode) {
	sign, text := signOf(s, "-/")
	m, e := perm.Change(text, api.TypeReg, 0)
	if e != api.OK {
		giveUp()
	}
	return sign, m & api.PermMask
}

// countOf: a number with a sign, or without one.
func countOf(s string) count {
	sign, digits := signOf(s, "+-")
	n, e := number.Int(digits)
	if e != api.OK || digits[0] == '-' {
		giveUp()
	}
	return count{sign, n}
}

// sizeOf: a unit, and how many there must be of it.
func sizeOf(s string) (int, count) {
	units := [...]int{1, 2, 1024, 512}
	if s != "" {
		last := len(s) - 1
		if i := strings.IndexByte("cwkb", s[last]); i >= 0 {
			return units[i], countOf(s[:last])
		}
	}
	return 512, countOf(s)
}

// depthOf: a number from 0 on.
func depthOf(s string) int {
	n, e := number.Int(s)
	if e != api.OK || n < 0 {
		giveUp()
	}
	return n
}
