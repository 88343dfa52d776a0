package getopt_test

import (
	"fmt"
	"strings"
	"testing"

	"tinsel/api"
	"tinsel/getopt"
)

// The calls, with the signatures that the chapter lists.
var (
	_ func(string, []string) ([]api.Opt, []string, api.BadOpt, api.Errno) = getopt.Parse
	_ func(string, []api.Opt, []string) ([]string, api.Errno)             = getopt.Join
	_ func([]api.Opt, string) bool                                        = getopt.Has
	_ func([]api.Opt, string) int                                         = getopt.Count
	_ func([]api.Opt, string) (string, bool)                              = getopt.Last
	_ func([]api.Opt, string) string                                      = getopt.Winner
	_ func(string) (string, api.Errno)                                    = getopt.Usage
	_ func(string, api.BadOpt) string                                     = getopt.Says
)

// brief: a text quoted, or how it begins and how long it is.
func brief(s string) string {
	if len(s) <= 300 {
		return fmt.Sprintf("%q", s)
	}
	return fmt.Sprintf("%q.. (%d bytes)", s[:300], len(s))
}

// is: a text that a call answered.
func is(t *testing.T, what, got, want string) {
	t.Helper()
	if got != want {
		t.Errorf("%s: %s, want %s", brief(what), brief(got), brief(want))
	}
}

// words: arguments of this program, parted by spaces; ~ stands for the empty one.
func words(s string) []string {
	l := strings.Fields(s)
	for i := range l {
		if l[i] == "~" {
			l[i] = ""
		}
	}
	return l
}

// given: options, as name=argument or as the name alone, parted by spaces.
func given(s string) []api.Opt {
	var l []api.Opt
	for _, w := range strings.Fields(s) {
		name, arg, _ := strings.Cut(w, "=")
		l = append(l, api.Opt{Name: name, Arg: arg})
	}
	return l
}

// parted: what Parse answered, so that each part is to be seen, whether a list is nil or empty or not.
func parted(opts []api.Opt, rest []string, bad api.BadOpt, e api.Errno) string {
	var l []string
	for _, o := range opts {
		l = append(l, fmt.Sprintf("%q=%q", o.Name, o.Arg))
	}
	return fmt.Sprintf("%v %q %q %v %v", l, rest, bad.Name, bad.Missing, e)
}

// parses: Parse answers these options and operands.
func parses(t *testing.T, spec string, args []string, opts []api.Opt, rest []string) {
	t.Helper()
	is(t, fmt.Sprintf("Parse(%q, %q)", spec, args), parted(getopt.Parse(spec, args)), parted(opts, rest, api.BadOpt{}, api.OK))
}

// unknown: Parse answers EUSAGE with this name, and beside that nothing.
func unknown(t *testing.T, spec string, args []string, name string) {
	t.Helper()
	is(t, fmt.Sprintf("Parse(%q, %q)", spec, args), parted(getopt.Parse(spec, args)), parted(nil, nil, api.BadOpt{Name: name}, api.EUSAGE))
}

// missing: Parse answers EUSAGE with this name, whose argument is missing, and beside that nothing.
func missing(t *testing.T, spec string, args []string, name string) {
	t.Helper()
	is(t, fmt.Sprintf("Parse(%q, %q)", spec, args), parted(getopt.Parse(spec, args)), parted(nil, nil, api.BadOpt{Name: name, Missing: true}, api.EUSAGE))
}

// joins: Join answers these arguments.
func joins(t *testing.T, spec string, opts []api.Opt, rest, want []string) {
	t.Helper()
	l, e := getopt.Join(spec, opts, rest)
	is(t, fmt.Sprintf("Join(%q, %q, %q)", spec, opts, rest), fmt.Sprintf("%q %v", l, e), fmt.Sprintf("%q %v", want, api.OK))
}

// noJoin: Join answers EINVAL, and beside it nothing.
func noJoin(t *testing.T, spec string, opts []api.Opt, rest []string) {
	t.Helper()
	l, e := getopt.Join(spec, opts, rest)
	is(t, fmt.Sprintf("Join(%q, %q, %q)", spec, opts, rest), fmt.Sprintf("%q %v", l, e), fmt.Sprintf("%q %v", []string(nil), api.EINVAL))
}

// uses: Usage answers this text.
func uses(t *testing.T, spec, want string) {
	t.Helper()
	s, e := getopt.Usage(spec)
	is(t, fmt.Sprintf("Usage(%q)", spec), fmt.Sprintf("%q %v", s, e), fmt.Sprintf("%q %v", want, api.OK))
}

// noSpec: each call that takes a spec answers EINVAL, whatever else it is given.
func noSpec(t *testing.T, spec string) {
	t.Helper()
	for _, args := range [][]string{nil, {"x"}, {"-a"}, {"-?"}, {"-b"}, {"--", "-a"}} {
		is(t, fmt.Sprintf("Parse(%s, %q)", brief(spec), args), parted(getopt.Parse(spec, args)), parted(nil, nil, api.BadOpt{}, api.EINVAL))
		noJoin(t, spec, nil, args)
	}
	noJoin(t, spec, given("a"), words("x"))
	s, e := getopt.Usage(spec)
	is(t, "Usage("+brief(spec)+")", fmt.Sprintf("%q %v", s, e), fmt.Sprintf("%q %v", "", api.EINVAL))
}

// everyText: the texts of at most n of these letters, the empty one first.
func everyText(letters string, n int) []string {
	all, last := []string{""}, []string{""}
	for range n {
		var next []string
		for _, s := range last {
			for _, c := range []byte(letters) {
				next = append(next, s+string([]byte{c}))
			}
		}
		all, last = append(all, next...), next
	}
	return all
}

// everyList: the lists of at most n of these words, the empty one first.
func everyList(words []string, n int) [][]string {
	all, last := [][]string{nil}, [][]string{nil}
	for range n {
		var next [][]string
		for _, l := range last {
			for _, w := range words {
				next = append(next, append(l[:len(l):len(l)], w))
			}
		}
		all, last = append(all, next...), next
	}
	return all
}

// oneByte: a text of it alone.
func oneByte(c int) string { return string([]byte{byte(c)}) }

// isWord: a letter or a digit?
func isWord(c int) bool { return c >= 0 && c < 128 && strings.ContainsRune(everyLetter, rune(c)) }

// everyLetter: all that may stand in a spec, once each.
const everyLetter = "abcdefghijklmnopqrstuvwxyzABCDEFGHIJKLMNOPQRSTUVWXYZ0123456789"
