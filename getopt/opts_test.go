package getopt_test

import (
	"fmt"
	"testing"

	"tinsel/api"
	"tinsel/getopt"
)

// asks: Count is n, Has tells whether that is more than 0, and Last is the last Arg.
func asks(t *testing.T, opts []api.Opt, name string, n int, arg string) {
	t.Helper()
	last, ok := getopt.Last(opts, name)
	got := fmt.Sprintf("%d %v %q %v", getopt.Count(opts, name), getopt.Has(opts, name), last, ok)
	is(t, fmt.Sprintf("%q of %q", name, opts), got, fmt.Sprintf("%d %v %q %v", n, n > 0, arg, n > 0))
}

// P9.3: Has, Count, Last.
func TestAsks(t *testing.T) {
	opts := []api.Opt{{Name: "a"}, {Name: "b", Arg: "1"}, {Name: "B", Arg: "2"}, {Name: "b", Arg: "3"}, {Name: "c", Arg: "4"}, {Name: "c"}, {Name: "a"}, {Name: "d", Arg: "5"}, {Name: "a"}}
	asks(t, opts, "a", 3, "")
	asks(t, opts, "b", 2, "3")
	asks(t, opts, "B", 1, "2")
	asks(t, opts, "c", 2, "") // the last one has none
	asks(t, opts, "d", 1, "5")
	for _, name := range []string{"", "A", "x", "ab", "bb", "a ", "1", "5", "\x00", "\xff", "-a", "é"} {
		asks(t, opts, name, 0, "")
	}
	asks(t, opts[:0], "a", 0, "")
	asks(t, opts[:1], "a", 1, "")
	asks(t, opts[:3], "b", 1, "1")
	asks(t, nil, "a", 0, "")
	asks(t, nil, "", 0, "")
	asks(t, []api.Opt{}, "", 0, "")
}

// P9.3: names that Parse never tells are names like others.
func TestAsksOfOddNames(t *testing.T) {
	opts := []api.Opt{{Arg: "1"}, {Name: "ab", Arg: "2"}, {Name: "a", Arg: "3"}, {Arg: "4"}, {Name: "ab", Arg: "5"}, {Name: "\xff", Arg: "6"}, {Name: "é", Arg: "7"}, {Name: "\xc3", Arg: "8"}}
	asks(t, opts, "", 2, "4")
	asks(t, opts, "ab", 2, "5")
	asks(t, opts, "a", 1, "3")
	asks(t, opts, "b", 0, "")
	asks(t, opts, "\xff", 1, "6")
	asks(t, opts, "\xfe", 0, "")
	asks(t, opts, "\ufffd", 0, "")
	asks(t, opts, "é", 1, "7")
	asks(t, opts, "\xc3", 1, "8")
	asks(t, opts, "\xa9", 0, "")
	asks(t, []api.Opt{{}}, "", 1, "")
}

// P9.3: Winner.
func TestWinner(t *testing.T) {
	opts := given("a b=1 c a d=2")
	for _, x := range []struct {
		n           int // how many of the options
		names, want string
	}{
		{5, "a", "a"}, {5, "ab", "a"}, {5, "ba", "a"}, {5, "bc", "c"}, {5, "cb", "c"}, {5, "b", "b"}, {5, "abcd", "d"}, {5, "dcba", "d"},
		{5, "", ""}, {5, "x", ""}, {5, "ABCD", ""}, {5, "xyb", "b"}, {5, "bxy", "b"}, {5, "12", ""}, {5, ":+-", ""},
		{5, "bb", "b"}, {5, "bcb", "c"}, {5, "abba", "a"}, // a byte twice
		{5, "éc", "c"}, {5, "\xffb\x80", "b"}, {5, "\x00", ""},
		{0, "a", ""}, {0, "", ""}, {1, "ab", "a"}, {2, "ab", "b"}, {3, "ab", "b"}, {4, "ab", "a"}, {4, "d", ""},
	} {
		is(t, fmt.Sprintf("Winner(%v, %q)", opts[:x.n], x.names), getopt.Winner(opts[:x.n], x.names), x.want)
	}
	is(t, "Winner of nil", getopt.Winner(nil, "abc"), "")
	is(t, "Winner of nil and nothing", getopt.Winner(nil, ""), "")
}

// P9.3: a Name of no byte, or of several, is not one byte of names.
func TestWinnerOfOddNames(t *testing.T) {
	opts := []api.Opt{{Name: "a"}, {Name: "\xc3"}, {Name: "b"}, {Name: "é"}, {Name: "ab"}, {Name: "bc"}, {}}
	for _, x := range [][2]string{
		{"", ""}, {"a", "a"}, {"ab", "b"}, {"abc", "b"}, {"bc", "b"}, {"c", ""}, {"é", "\xc3"}, {"\xc3", "\xc3"}, {"\xa9", ""}, {"éa", "\xc3"}, {"a\xc3b", "b"}, {"\ufffd", ""},
	} {
		is(t, fmt.Sprintf("Winner(%q, %q)", opts, x[0]), getopt.Winner(opts, x[0]), x[1])
	}
	for c := range 256 {
		s := oneByte(c)
		is(t, "Winner of a byte", getopt.Winner([]api.Opt{{Name: s}, {Name: s + s}}, "x"+s), s)
		is(t, "Winner of another byte", getopt.Winner([]api.Opt{{Name: s}}, oneByte(c+1)+oneByte(c+128)), "")
	}
}

// P9.3: Says.
func TestSays(t *testing.T) {
	for _, x := range []struct {
		applet string
		b      api.BadOpt
		want   string
	}{
		{"ls", api.BadOpt{Name: "x"}, "ls: invalid option -- 'x'"},
		{"cut", api.BadOpt{Name: "b", Missing: true}, "cut: option requires an argument -- 'b'"},
		{"", api.BadOpt{Name: "x"}, ": invalid option -- 'x'"},
		{"", api.BadOpt{Name: "x", Missing: true}, ": option requires an argument -- 'x'"},
		{"ls", api.BadOpt{}, "ls: invalid option -- ''"},
		{"ls", api.BadOpt{Missing: true}, "ls: option requires an argument -- ''"},
		{"", api.BadOpt{}, ": invalid option -- ''"},
		{"ls", api.BadOpt{Name: "\xc3"}, "ls: invalid option -- '\xc3'"},
		{"ls", api.BadOpt{Name: "\xff", Missing: true}, "ls: option requires an argument -- '\xff'"},
		{"ls", api.BadOpt{Name: "-"}, "ls: invalid option -- '-'"},
		{"ls", api.BadOpt{Name: "'"}, "ls: invalid option -- '''"},
		{"ls", api.BadOpt{Name: "\n"}, "ls: invalid option -- '\n'"},
		{"ls", api.BadOpt{Name: "\x00"}, "ls: invalid option -- '\x00'"},
		{"a: b\xff", api.BadOpt{Name: "ab"}, "a: b\xff: invalid option -- 'ab'"},
	} {
		is(t, fmt.Sprintf("Says(%q, %q)", x.applet, x.b.Name), getopt.Says(x.applet, x.b), x.want)
	}
}

// P9.1, P9.3: what is told of what Parse refuses.
func TestSaysOfParse(t *testing.T) {
	for c := range 256 {
		if s := oneByte(c); s != "a" && s != "b" {
			_, _, bad, _ := getopt.Parse("ab:", []string{"-a" + s})
			is(t, "Says", getopt.Says("ls", bad), "ls: invalid option -- '"+s+"'")
		}
	}
	_, _, bad, _ := getopt.Parse("ab:", words("-ab"))
	is(t, "Says", getopt.Says("ls", bad), "ls: option requires an argument -- 'b'")
}
