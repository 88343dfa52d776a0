package getopt_test

import (
	"testing"

	"tinsel/api"
	"tinsel/getopt"
)

// P9.2: arguments of options and operands.
func TestJoin(t *testing.T) {
	for _, plus := range []string{"", "+"} {
		spec := plus + "ab:c9:"
		joins(t, spec, nil, nil, words("--"))
		joins(t, spec, []api.Opt{}, []string{}, words("--"))
		joins(t, spec, given("a"), nil, words("-a --"))
		joins(t, spec, given("a c a"), nil, words("-a -c -a --"))
		joins(t, spec, given("b=x"), nil, words("-b x --"))
		joins(t, spec, given("b"), nil, words("-b ~ --")) // an empty Arg is one
		joins(t, spec, given("9=9"), nil, words("-9 9 --"))
		joins(t, spec, given("a b=x c b=y"), words("z"), words("-a -b x -c -b y -- z"))
		joins(t, spec, given("b=-a b=-- b=- b=-b"), words("z"), words("-b -a -b -- -b - -b -b -- z"))
		joins(t, spec, nil, words("x y"), words("-- x y"))
		joins(t, spec, nil, words("--"), words("-- --"))
		joins(t, spec, nil, words("x -- --"), words("-- x -- --"))
		joins(t, spec, given("a"), words("-a -b -x - ~ --x"), words("-a -- -a -b -x - ~ --x"))
		joins(t, spec, []api.Opt{{Name: "b", Arg: "\xff \x00é"}}, []string{"\xc3", "a b"}, []string{"-b", "\xff \x00é", "--", "\xc3", "a b"})
	}
	joins(t, "", nil, words("x"), words("-- x"))
	joins(t, "+", nil, words("-x"), words("-- -x"))
	joins(t, "ab:", given("a b=c b=d"), words("-x"), words("-a -b c -b d -- -x"))
}

// P9.2: options that are none of the spec.
func TestNoJoin(t *testing.T) {
	for _, plus := range []string{"", "+"} {
		spec := plus + "ab:c"
		for _, name := range []string{
			"", "x", "A", "B", "ab", "aa", "bc", "b:", "ac", ":", "+", "-", "-a", "a:", "0", " ", "\x00", "\xff", "\xe1", "é", "ab:c", spec,
		} {
			noJoin(t, spec, []api.Opt{{Name: name}}, nil)
			noJoin(t, spec, []api.Opt{{Name: name, Arg: "x"}}, words("y"))
			noJoin(t, spec, []api.Opt{{Name: "a"}, {Name: "b", Arg: "x"}, {Name: name}}, words("y"))
			noJoin(t, spec, []api.Opt{{Name: name}, {Name: "a"}}, nil)
		}
		noJoin(t, spec, given("a=x"), nil) // an Arg where none is taken
		noJoin(t, spec, given("c=c"), nil)
		noJoin(t, spec, []api.Opt{{Name: "a", Arg: " "}}, nil)
		noJoin(t, spec, []api.Opt{{Name: "a", Arg: "\x00"}}, nil)
		noJoin(t, spec, given("a b=x c=y"), words("z"))
		noJoin(t, spec, given("a=y b=x c"), words("z"))
	}
	noJoin(t, "", given("a"), nil)
	noJoin(t, "+", given("+"), nil)
	noJoin(t, "aa", nil, nil)
	noJoin(t, "b::", given("b=x"), words("y"))
}

// P9.4: Parse of Join tells just these options and operands, and Join of that the same arguments.
func TestParseOfJoin(t *testing.T) {
	args := []string{"", "-", "--", "-a", "-b", "x", "--x", "é", "-é"}
	rests := [][]string{nil, {""}, {"--"}, {"--", "--"}, {"-a"}, {"x", "-a", "--", "-b"}, {"-", "-zz", "--z"}}
	for _, spec := range []string{"ab:", "+ab:", "b:a", "Aab:B:9", "+0ab:"} {
		for _, first := range args {
			for _, second := range args {
				for _, rest := range rests {
					opts := []api.Opt{{Name: "a"}, {Name: "b", Arg: first}, {Name: "b", Arg: second}, {Name: "a"}}
					for from := range len(opts) + 1 {
						l, _ := getopt.Join(spec, opts[from:], rest)
						parses(t, spec, l, opts[from:], rest)
						joins(t, spec, opts[from:], rest, l)
					}
				}
			}
		}
	}
}
