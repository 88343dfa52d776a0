package getopt_test

import (
	"fmt"
	"slices"
	"strings"
	"sync"
	"testing"

	"tinsel/api"
	"tinsel/getopt"
)

// picture: what all calls say of a spec, some arguments and some options.
func picture(spec string, args []string, opts []api.Opt) string {
	l, e := getopt.Join(spec, opts, args)
	u, f := getopt.Usage(spec)
	s := fmt.Sprintf("%s %q %v %q %v", parted(getopt.Parse(spec, args)), l, e, u, f)
	for _, name := range append([]string{"", spec}, args...) {
		last, ok := getopt.Last(opts, name)
		s += fmt.Sprintf(" %v %d %q %v %q %q", getopt.Has(opts, name), getopt.Count(opts, name), last, ok, getopt.Winner(opts, name), getopt.Says(spec, api.BadOpt{Name: name}))
	}
	return s
}

// oddTexts: as specs, as arguments and as names; some of them are such.
func oddTexts() []string {
	l := []string{"", "+", ":", "-", "--", "ab:", "+ab:", "-ab", "-b", "\x00", "\xff", "-\xff", "é", "-é", "-a\xc3", "\ufffd", "aa", "ａ"}
	for _, s := range []string{"a", "-", "+", ":", "-a", "ab:", "\x80", "é"} {
		l = append(l, strings.Repeat(s, 1000))
	}
	return l
}

// R1, R4: no call panics, each ends, and says the same again; nil and empty lists are the same.
func TestOddArguments(t *testing.T) {
	texts := oddTexts()
	for i, spec := range texts {
		for j, word := range texts {
			third := texts[(i+3*j)%len(texts)]
			args := []string{word, third, spec}
			opts := []api.Opt{{Name: third, Arg: word}, {Name: word, Arg: third}, {}}
			is(t, "again", picture(spec, args, opts), picture(spec, args, opts))
			is(t, "no options", picture(spec, args, nil), picture(spec, args, []api.Opt{}))
			is(t, "no arguments", picture(spec, nil, opts), picture(spec, []string{}, opts))
			is(t, "neither", picture(spec, nil, nil), picture(spec, []string{}, []api.Opt{}))
		}
	}
}

// R1: great lists and clusters are gone through in a short time.
func TestGreatLists(t *testing.T) {
	const n = 500000
	opts, rest, _, e := getopt.Parse("ab:", []string{"-" + strings.Repeat("a", n) + strings.Repeat("b", n)})
	if len(opts) != n+1 || len(rest) != 0 || e != api.OK || opts[n].Arg != strings.Repeat("b", n-1) {
		t.Errorf("a great cluster: %d options, %d operands, %v", len(opts), len(rest), e)
	}
	opts, rest, _, e = getopt.Parse("ab:", slices.Repeat(words("-a x -b y"), n))
	if len(opts) != 2*n || len(rest) != n || e != api.OK {
		t.Errorf("many arguments: %d options, %d operands, %v", len(opts), len(rest), e)
	}
	l, e := getopt.Join("ab:", opts, rest)
	if len(l) != 4*n+1 || e != api.OK {
		t.Errorf("joined: %d, %v", len(l), e)
	}
	unknown(t, "ab:", append(slices.Repeat(words("-a"), n), "-x"), "x")
	if c := getopt.Count(opts, "a"); c != n {
		t.Errorf("Count: %d", c)
	}
	is(t, "Winner of many names", getopt.Winner(opts, strings.Repeat("x", n)), "")
	is(t, "Winner of many names", getopt.Winner(opts, strings.Repeat("x", n)+"a"), "a")
}

// R2: beside an error stands nothing; what went well ahead of what is wrong is not told.
func TestNothingBesideAnError(t *testing.T) {
	unknown(t, "ab:", words("x -a -by z -q"), "q")
	missing(t, "ab:", words("x -a -by z -ab"), "b")
	noJoin(t, "ab:", given("a b=x q"), words("y"))
	noSpec(t, "ab:cda")
	for _, args := range [][]string{words("-q"), words("-b"), words("-a x -q")} {
		opts, rest, _, _ := getopt.Parse("ab:", args)
		if len(opts) != 0 || len(rest) != 0 {
			t.Errorf("Parse(%q): %v, %q", args, opts, rest)
		}
	}
}

// R2: a spec that is none is told ahead of all else.
func TestSpecFirst(t *testing.T) {
	for _, args := range [][]string{words("-q"), words("-b"), words("--q")} {
		is(t, "Parse", parted(getopt.Parse("ab:b", args)), parted(nil, nil, api.BadOpt{}, api.EINVAL))
	}
}

// spoil: all that belongs to a list, its spare room too.
func spoil[T any](l []T, with T) {
	l = l[:cap(l)]
	for i := range l {
		l[i] = with
	}
}

// R3: what is handed in is not changed, nor what lies behind its end; and it is not looked at there.
func TestHandedInStays(t *testing.T) {
	for _, spec := range []string{"ab:", "+ab:", "a", "aa"} {
		for n := range 8 {
			args, opts := words("-a x -b y -- z -q -w"), given("a b=x a b=y b=z a b=q q")
			hadArgs, hadOpts := slices.Clone(args), slices.Clone(opts)
			got := picture(spec, args[:n], opts[:n])
			is(t, "alone", got, picture(spec, slices.Clone(args[:n:n]), slices.Clone(opts[:n:n])))
			if !slices.Equal(args, hadArgs) || !slices.Equal(opts, hadOpts) {
				t.Errorf("what was handed in: %q, %v", args, opts)
			}
		}
	}
}

// R3: an answer is new memory: it stays, whatever the caller does to what was handed in.
func TestAnswerStays(t *testing.T) {
	for _, spec := range []string{"ab:", "+ab:"} {
		for _, s := range []string{"", "-a", "x", "x y z", "-- x y", "-a -b c -- -x y", "-bc x y", "-a x -b c y", "- - -"} {
			args := words(s)
			opts, rest, bad, e := getopt.Parse(spec, args)
			want := parted(opts, rest, bad, e)
			spoil(args, "spoilt")
			is(t, "Parse behind a change of "+s, parted(opts, rest, bad, e), want)

			hadOpts, hadRest := slices.Clone(opts), slices.Clone(rest)
			l, _ := getopt.Join(spec, hadOpts, hadRest)
			joined := fmt.Sprintf("%q", l)
			spoil(hadOpts, api.Opt{Name: "spoilt"})
			spoil(hadRest, "spoilt")
			is(t, "Join behind a change of "+s, fmt.Sprintf("%q", l), joined)
		}
	}
}

// R3: a caller may change an answer and use its spare room; nothing else changes by it.
func TestAnswerIsNew(t *testing.T) {
	for _, spec := range []string{"ab:", "+ab:"} {
		for _, s := range []string{"-a", "x", "x y z", "-- x y", "-a -b c -- -x y", "-bc x y", "-a x -b c y", "--"} {
			args := words(s)
			opts, rest, _, _ := getopt.Parse(spec, args)
			wantOpts, wantRest := slices.Clone(opts), slices.Clone(rest)
			spoil(rest, "spoilt")
			if !slices.Equal(opts, wantOpts) {
				t.Errorf("options: %v, they were %v", opts, wantOpts)
			}
			spoil(opts, api.Opt{Name: "spoilt", Arg: "spoilt"})
			is(t, "the arguments", fmt.Sprintf("%q", args), fmt.Sprintf("%q", words(s)))
			parses(t, spec, args, wantOpts, wantRest)

			hadOpts, hadRest := slices.Clone(wantOpts), slices.Grow(slices.Clone(wantRest), 9)
			l, _ := getopt.Join(spec, hadOpts, hadRest)
			want := slices.Clone(l)
			spoil(l, "spoilt")
			if !slices.Equal(hadOpts, wantOpts) || !slices.Equal(hadRest, wantRest) {
				t.Errorf("what was handed in: %v, %q", hadOpts, hadRest)
			}
			joins(t, spec, hadOpts, hadRest, want)
		}
	}
}

// R3: what lies behind the end of Join's operands is the caller's: not written to by the words ahead of them.
func TestRoomBehindOperands(t *testing.T) {
	room := []string{"x", "y", "z", "w"}
	joins(t, "ab:", given("a b=c"), room[:2], words("-a -b c -- x y"))
	joins(t, "ab:", nil, room[:0], words("--"))
	is(t, "the room", fmt.Sprintf("%q", room), fmt.Sprintf("%q", words("x y z w")))
}

// R3, R4: a list that is changed behind a call counts for the next one; nothing is kept.
func TestNothingIsKept(t *testing.T) {
	args, opts := words("-a x"), given("a b=x")
	parses(t, "ab:", args, given("a"), words("x"))
	args[0], args[1] = "-b", "-a"
	parses(t, "ab:", args, given("b=-a"), nil)
	unknown(t, "b:", words("-a"), "a")
	parses(t, "ab:", args, given("b=-a"), nil) // nothing is left of the call ahead
	joins(t, "ab:", opts, nil, words("-a -b x --"))
	opts[0] = api.Opt{Name: "b", Arg: "y"}
	joins(t, "ab:", opts, nil, words("-b y -b x --"))
	asks(t, opts, "a", 0, "")
	opts[1].Name = "a"
	asks(t, opts, "a", 1, "x")
	is(t, "Winner", getopt.Winner(opts, "ab"), "a")
}

// R4: the same answers, whoever else asks at the same time.
func TestManyAtOnce(t *testing.T) {
	specs := []string{"ab:", "+ab:", "", "aa", "a:b", "+"}
	args, opts := words("-a x -bc -- -q"), given("a b=x")
	want := make([]string, len(specs))
	for i, spec := range specs {
		want[i] = picture(spec, args, opts)
	}
	got := make([]string, 8*len(specs))
	var all sync.WaitGroup
	for i := range got {
		all.Go(func() { got[i] = picture(specs[i%len(specs)], args, opts) })
	}
	all.Wait()
	for i := range got {
		is(t, "at once", got[i], want[i%len(specs)])
	}
}
