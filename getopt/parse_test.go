package getopt_test

import (
	"testing"

	"tinsel/api"
)

// The chapter's examples.
func TestExamples(t *testing.T) {
	parses(t, "ab:", words("-a x -bc -b d -- -a"), given("a b=c b=d"), words("x -a"))
	parses(t, "+a", words("x -a"), nil, words("x -a"))
	missing(t, "b:", words("-b"), "b")
	unknown(t, "a", words("-ax"), "x")
	parses(t, "a", words("-"), nil, words("-"))
	noSpec(t, "aa")
	uses(t, "ab:c", "[-ac] [-b arg]")
}

// P9.1: arguments without an option.
func TestOperands(t *testing.T) {
	for _, spec := range []string{"", "+", "a", "+a", "ab:", "+ab:"} {
		parses(t, spec, nil, nil, nil)
		parses(t, spec, []string{}, nil, nil)
		for _, s := range []string{"~", "-", "x", "a", "b", ":", "+", "+a", "a-", "x --", "- -", "~ ~", "~ x -", "a -- -"} {
			l := words(s)
			if spec == "" || spec[0] != '+' {
				l = withoutEnd(l)
			}
			parses(t, spec, words(s), nil, l)
		}
	}
	parses(t, "a", []string{"a b", "\xff", "é-a", " -a", "\x00", "—a", "−a"}, nil, []string{"a b", "\xff", "é-a", " -a", "\x00", "—a", "−a"})
}

// withoutEnd: the words but the first --.
func withoutEnd(l []string) []string {
	for i, w := range l {
		if w == "--" {
			return append(l[:i:i], l[i+1:]...)
		}
	}
	return l
}

// P9.1: -- ends the options, once.
func TestEndOfOptions(t *testing.T) {
	for _, plus := range []string{"", "+"} {
		spec := plus + "ab:"
		parses(t, spec, words("--"), nil, nil)
		parses(t, spec, words("-- --"), nil, words("--"))
		parses(t, spec, words("-- -- --"), nil, words("-- --"))
		parses(t, spec, words("-- -a -x -b ~ - x"), nil, words("-a -x -b ~ - x"))
		parses(t, spec, words("-a --"), given("a"), nil)
		parses(t, spec, words("-a -- -a"), given("a"), words("-a"))
		parses(t, spec, words("-bc -- -b"), given("b=c"), words("-b"))
		parses(t, spec, words("-b -- -a"), given("b=-- a"), nil)
		parses(t, spec, words("-b -- --"), given("b=--"), nil)
		parses(t, spec, words("-b -- -- --"), given("b=--"), words("--"))
		parses(t, spec, words("-ab -- x"), given("a b=--"), words("x"))
		parses(t, spec, words("-b-- -a"), given("b=-- a"), nil)
		unknown(t, spec, words("--x"), "-")
		unknown(t, spec, words("--a"), "-")
		unknown(t, spec, words("---"), "-")
		unknown(t, spec, words("--a --"), "-")
		unknown(t, spec, words("-a -x -- y"), "x")
	}
	parses(t, "ab:", words("x -- -a"), nil, words("x -a"))
	parses(t, "ab:", words("x -a -- -a"), given("a"), words("x -a"))
	parses(t, "+ab:", words("x -- -a"), nil, words("x -- -a"))
	parses(t, "+ab:", words("- -- --"), nil, words("- -- --"))
}

// P9.1: clusters.
func TestClusters(t *testing.T) {
	for _, plus := range []string{"", "+"} {
		spec := plus + "acb:d:"
		parses(t, spec, words("-a"), given("a"), nil)
		parses(t, spec, words("-ac"), given("a c"), nil)
		parses(t, spec, words("-ca"), given("c a"), nil)
		parses(t, spec, words("-aaca"), given("a a c a"), nil)
		parses(t, spec, words("-a -c -a"), given("a c a"), nil)
		parses(t, spec, words("-bac"), given("b=ac"), nil)      // it takes one, and stands first
		parses(t, spec, words("-abc"), given("a b=c"), nil)     // in the middle
		parses(t, spec, words("-acbd"), given("a c b=d"), nil)  // its argument is a letter, too
		parses(t, spec, words("-acb d"), given("a c b=d"), nil) // last
		parses(t, spec, words("-bb"), given("b=b"), nil)
		parses(t, spec, words("-b b"), given("b=b"), nil)
		parses(t, spec, words("-bbb -dd"), given("b=bb d=d"), nil)
		parses(t, spec, words("-b:"), given("b=:"), nil)
		parses(t, spec, words("-b-a"), given("b=-a"), nil)
		parses(t, spec, words("-b-"), given("b=-"), nil)
		parses(t, spec, words("-b=x"), []api.Opt{{Name: "b", Arg: "=x"}}, nil)
		parses(t, spec, []string{"-b x"}, []api.Opt{{Name: "b", Arg: " x"}}, nil)
		parses(t, spec, []string{"-b\xff\x00é"}, []api.Opt{{Name: "b", Arg: "\xff\x00é"}}, nil)
		parses(t, spec, []string{"-abé", "-c"}, []api.Opt{{Name: "a"}, {Name: "b", Arg: "é"}, {Name: "c"}}, nil)
	}
}

// P9.1: the next argument, whatever it is.
func TestNextArgument(t *testing.T) {
	for _, plus := range []string{"", "+"} {
		spec := plus + "ab:"
		for _, arg := range []string{"", "-", "--", "-a", "-b", "-x", "--x", "x", "a b", "\xff", "+", ":"} {
			parses(t, spec, []string{"-b", arg}, []api.Opt{{Name: "b", Arg: arg}}, nil)
			parses(t, spec, []string{"-ab", arg, "-a"}, []api.Opt{{Name: "a"}, {Name: "b", Arg: arg}, {Name: "a"}}, nil)
			parses(t, spec, []string{"-b", arg, "--", "-b"}, []api.Opt{{Name: "b", Arg: arg}}, words("-b"))
			parses(t, spec, []string{"-b", arg, "x"}, []api.Opt{{Name: "b", Arg: arg}}, words("x"))
		}
		parses(t, spec, words("-b -b -b -b"), given("b=-b b=-b"), nil)
		parses(t, spec, words("-b -b -bx"), given("b=-b b=x"), nil)
		missing(t, spec, words("-b"), "b")
		missing(t, spec, words("-ab"), "b")
		missing(t, spec, words("-aab"), "b")
		missing(t, spec, words("-a -b"), "b")
		missing(t, spec, words("-bc -b"), "b")
		missing(t, spec, words("-b -b -b"), "b")
		missing(t, spec, words("-b ~ -b"), "b")
	}
	missing(t, "ab:", words("x -b"), "b")
	missing(t, "ab:c:", words("-b x y -c"), "c")
	parses(t, "+ab:", words("x -b"), nil, words("x -b"))
	parses(t, "ab:", words("x -b y z"), given("b=y"), words("x z"))
	parses(t, "+ab:", words("-b x y -b"), given("b=x"), words("y -b"))
}

// P9.1: options that may not be.
func TestUnknownOptions(t *testing.T) {
	for _, plus := range []string{"", "+"} {
		spec := plus + "ab:"
		unknown(t, spec, words("-x"), "x")
		unknown(t, spec, words("-A"), "A")
		unknown(t, spec, words("-ax"), "x")
		unknown(t, spec, words("-xa"), "x")
		unknown(t, spec, words("-xyz"), "x")
		unknown(t, spec, words("-axb"), "x")
		unknown(t, spec, words("-a-"), "-")
		unknown(t, spec, words("-a-a"), "-")
		unknown(t, spec, words("-a--"), "-")
		unknown(t, spec, words("-+"), "+")
		unknown(t, spec, words("-a+"), "+")
		unknown(t, spec, words("-:"), ":")
		unknown(t, spec, words("-a:"), ":")
		unknown(t, spec, words("-a:b"), ":")
		unknown(t, spec, words("-a -bc -xb"), "x")
		unknown(t, spec, words("-x -b"), "x") // the first thing that is wrong
		unknown(t, spec, words("-xb"), "x")
		unknown(t, spec, words("-b -x -y"), "y")
		unknown(t, spec, words("-x --"), "x")
		unknown(t, spec, []string{"-é"}, "\xc3")
		unknown(t, spec, []string{"-aé"}, "\xc3")
		unknown(t, spec, []string{"-\xff"}, "\xff")
		unknown(t, spec, []string{"-a\x80b"}, "\x80")
		unknown(t, spec, []string{"-\xa9\xc3"}, "\xa9")
		unknown(t, spec, []string{"-\ufffd"}, "\xef")
		unknown(t, spec, []string{"-\U0001f600"}, "\xf0")
		unknown(t, spec, []string{"- "}, " ")
		unknown(t, spec, []string{"-a a"}, " ")
		unknown(t, spec, []string{"-\x00"}, "\x00")
		unknown(t, spec, []string{"-a\n"}, "\n")
	}
	unknown(t, "", words("-a"), "a")
	unknown(t, "+", words("-a"), "a")
	unknown(t, "+", words("-+"), "+")
	unknown(t, "a", words("-b x"), "b")
	unknown(t, "ab:", words("x -y"), "y")
	unknown(t, "ab:", words("x y - ~ -a -z"), "z")
	parses(t, "+ab:", words("x -y"), nil, words("x -y"))
}

// P9.1: each byte in a cluster, first and behind an option.
func TestEachByteInACluster(t *testing.T) {
	const some = "acegikmoqsuwyACEGIKMOQSUWY02468"
	for c := range 256 {
		s := oneByte(c)
		if isWord(c) && len(withoutByte(some, s)) < len(some) {
			parses(t, some, []string{"-" + s, "-a" + s + "c"}, given(s+" a "+s+" c"), nil)
			continue
		}
		if s != "-" {
			unknown(t, some, []string{"-" + s}, s)
		}
		unknown(t, some, []string{"-a" + s}, s)
		unknown(t, some, []string{"-" + s + "a"}, s)
		unknown(t, some, []string{"-a" + s + "\xa9"}, s)
	}
}

// withoutByte: a text without the bytes that are this one.
func withoutByte(text, s string) string {
	out := ""
	for i := range len(text) {
		if text[i:i+1] != s {
			out += text[i : i+1]
		}
	}
	return out
}

// P9.1: an operand ahead of options.
func TestOptionsBehindOperands(t *testing.T) {
	for _, x := range []string{"x", "-", "~", "a"} {
		parses(t, "ab:", words(x+" -a"), given("a"), words(x))
		parses(t, "ab:", words(x+" -a y -bc z"), given("a b=c"), words(x+" y z"))
		parses(t, "ab:", words("-a "+x+" -b c"), given("a b=c"), words(x))
		parses(t, "+ab:", words(x+" -a"), nil, words(x+" -a"))
		parses(t, "+ab:", words(x+" -a y -bc z"), nil, words(x+" -a y -bc z"))
		parses(t, "+ab:", words("-a "+x+" -b c"), given("a"), words(x+" -b c"))
		parses(t, "+ab:", words("-b "+x+" -a "+x+" -a"), given("b="+withoutByte(x, "~")+" a"), words(x+" -a"))
		parses(t, "+ab:", words(x+" -q --q"), nil, words(x+" -q --q"))
	}
}
