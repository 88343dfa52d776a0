package expr

import (
	"cmp"
	"strings"

	"tinsel/api"
	"tinsel/fault"
)

// unary: what such an operator asks of a word; nil: it is none.
func unary(g *fault.Gate, op, word string) truly {
	switch op {
	case "-n":
		return filled(word)
	case "-z":
		return not(filled(word))
	case "-t":
		return func() bool {
			integer(word)
			return false
		}
	case "-h", "-L":
		return looked(g.Lstat, word, ofType(api.TypeLink))
	case "-r":
		return reached(g, word, 4)
	case "-w":
		return reached(g, word, 2)
	case "-x":
		return reached(g, word, 1)
	case "-b", "-c", "-S":
		return never
	}
	if passes := unaryOfStat(g, op); passes != nil {
		return looked(g.Stat, word, passes)
	}
	return nil
}

// never: there are no such files.
func never() bool { return false }

// property is what is asked of a file.
type property func(api.Stat) bool

// unaryOfStat: what a unary operator asks of what a path leads to; nil: it is none.
func unaryOfStat(g *fault.Gate, op string) property {
	switch op {
	case "-e":
		return func(api.Stat) bool { return true }
	case "-f":
		return ofType(api.TypeReg)
	case "-d":
		return ofType(api.TypeDir)
	case "-p":
		return ofType(api.TypePipe)
	case "-s":
		return func(s api.Stat) bool { return s.Size > 0 }
	case "-u":
		return withBit(api.SetUid)
	case "-g":
		return withBit(api.SetGid)
	case "-k":
		return withBit(api.Sticky)
	case "-O":
		return func(s api.Stat) bool { return s.Uid == g.Cred().Uid }
	case "-G":
		return func(s api.Stat) bool { return s.Gid == g.Cred().Gid }
	}
	return nil
}

func ofType(kind api.Mode) property {
	return func(s api.Stat) bool { return s.Mode&api.TypeMask == kind }
}

func withBit(bit api.Mode) property {
	return func(s api.Stat) bool { return s.Mode&bit != 0 }
}

// looked: has what a look at a path tells that property?
func looked(look func(string) (api.Stat, api.Errno), path string, passes property) truly {
	return func() bool {
		s, e := look(path)
		return e == api.OK && passes(s)
	}
}

// reached: may it be used so?
func reached(g *fault.Gate, path string, how int) truly {
	return func() bool { return g.Access(path, how) == api.OK }
}

// binary: what such an operator asks of two words; nil: it is none.
func binary(g *fault.Gate, one, op, other string) truly {
	switch op {
	case "=", "==", "!=", "<", ">":
		return func() bool { return holds(op, strings.Compare(one, other)) }
	case "-eq", "-ne", "-lt", "-le", "-gt", "-ge":
		return func() bool {
			m, n := integer(one), integer(other)
			return holds(op, cmp.Compare(m, n))
		}
	case "-nt", "-ot", "-ef":
		return ofFiles(g, one, op, other)
	}
	return nil
}

// ofFiles: what is asked of two files. One that is not there is older than each that is.
func ofFiles(g *fault.Gate, one, op, other string) truly {
	return func() bool {
		first, e := g.Stat(one)
		second, e2 := g.Stat(other)
		if e != api.OK || e2 != api.OK {
			return e == api.OK && op == "-nt" || e2 == api.OK && op == "-ot"
		}
		switch op {
		case "-nt":
			return first.Mtime > second.Mtime
		case "-ot":
			return first.Mtime < second.Mtime
		}
		return first.Ino == second.Ino
	}
}
