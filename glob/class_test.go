package glob_test

import (
	"strings"
	"testing"

	"tinsel/api"
	"tinsel/glob"
)

// classes: their bytes, written out.
func classes() map[string]string {
	const (
		digits = "0123456789"
		upper  = "ABCDEFGHIJKLMNOPQRSTUVWXYZ"
		lower  = "abcdefghijklmnopqrstuvwxyz"
		cntrl  = "\x00\x01\x02\x03\x04\x05\x06\x07\x08\x09\x0a\x0b\x0c\x0d\x0e\x0f\x10\x11\x12\x13\x14\x15\x16\x17\x18\x19\x1a\x1b\x1c\x1d\x1e\x1f\x7f"
		graph  = "!\"#$%&'()*+,-./" + digits + ":;<=>?@" + upper + "[\\]^_`" + lower + "{|}~"
	)
	return map[string]string{
		"alnum": digits + upper + lower, "alpha": upper + lower, "blank": "\t ", "cntrl": cntrl, "digit": digits, "graph": graph,
		"lower": lower, "print": " " + graph, "punct": "!\"#$%&'()*+,-./:;<=>?@[\\]^_`{|}~", "space": "\t\n\v\f\r ", "upper": upper, "xdigit": digits + "ABCDEFabcdef",
	}
}

// P12.2: each class, rising.
func TestClass(t *testing.T) {
	if len(classes()) != 12 {
		t.Fatal("there are twelve")
	}
	for name, want := range classes() {
		b, e := glob.Class(name)
		is(t, "Class("+name+")", answer(b, e), answer([]byte(want), api.OK))
		sets(t, "[:"+name+":]", -1, want)
		sets(t, "x[:"+name+":]y", 5, "x"+want+"y")
	}
}

// P12.2: names of no class.
func TestNoClass(t *testing.T) {
	names := []string{"", " ", "x", "al", "alph", "alphas", "alpha ", " alpha", "ALPHA", "Alpha", "word", "ascii", "alpha\x00", "\x00", "\xff", "é", "[:alpha:]", ":alpha:", "alpha:", "digit,alpha", strings.Repeat("alpha", 1000)}
	for name := range classes() {
		names = append(names, "a"+name[1:]+"a", name[:len(name)-1], name+name, strings.ToUpper(name), name+"\n", name+"s")
	}
	for _, name := range names {
		b, e := glob.Class(name)
		is(t, "Class("+brief(name)+")", answer(b, e), answer(nil, api.EINVAL))
	}
}
