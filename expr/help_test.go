package expr_test

import (
	"fmt"
	"slices"
	"strconv"
	"strings"
	"testing"

	"tinsel/api"
	"tinsel/desc"
	"tinsel/expr"
	"tinsel/fault"
	"tinsel/tree"
)

// The calls, with the signatures that the chapter lists.
var (
	_ func([]string) (string, int, api.Errno)       = expr.Eval
	_ func(*fault.Gate, []string) (bool, api.Errno) = expr.Test
	_ func(string) (int, bool)                      = expr.Int
)

// What is told of an error, with nothing beside it.
const (
	usage  = "error 100"
	inval  = "error 22"
	ranges = "error 34"
	regexp = "error 101"
	efault = "error 14"
)

// The greatest size of a number, the next one, and some far beyond.
const (
	most = "999999999999999999"
	over = "1000000000000000000"
)

// tooGreat: integers' texts whose size is above MaxNumber.
func tooGreat() []string {
	l := list(over, "-"+over, "000"+over, "-000"+over, "9223372036854775807", "-9223372036854775808", "18446744073709551616", "-18446744073709551617")
	for _, n := range []int{19, 20, 39, 100, 5000} {
		l = append(l, strings.Repeat("9", n), "-1"+strings.Repeat("0", n))
	}
	return l
}

// noIntegers: texts that are none, though some look like it.
func noIntegers() []string {
	return list("", "-", "--1", "+1", "1-", "-1-", " 1", "1 ", "1\n", "-\t1", "- 1", "1a", "a1", "a", "1.0", "0x1", "1e3", "1_0", "\x00", "1\x00", "\xff", "٣", "－1", strings.Repeat("9", 30)+"x", "-x", "-n", "(")
}

// list: words, where a call's are written.
func list(l ...string) []string { return l }

// words: those of a text, parted by single spaces; so two of them have the empty one between them.
func words(s string) []string {
	if s == "" {
		return nil
	}
	return strings.Split(s, " ")
}

// brief: a text in quotes, or how it begins and how long it is.
func brief(s string) string {
	if len(s) <= 300 {
		return fmt.Sprintf("%q", s)
	}
	return fmt.Sprintf("%q.. (%d bytes)", s[:300], len(s))
}

// told: is it what a call should tell?
func told(t *testing.T, what, got, want string) {
	t.Helper()
	if got != want {
		t.Errorf("%s: %s, want %s", brief(what), brief(got), brief(want))
	}
}

// good: a call that all else in a test hangs on.
func good(t *testing.T, what string, e api.Errno) {
	t.Helper()
	if e != api.OK {
		t.Fatalf("%s: %d (%v)", what, int(e), e)
	}
}

// eval: what Eval tells: the value; what does not go with it is told behind that.
func eval(args ...string) string {
	value, status, e := expr.Eval(args)
	if e != api.OK {
		return wrong(e, value == "" && status == 2)
	}
	if status != statusOf(value) {
		return fmt.Sprintf("%s, status %d", value, status)
	}
	return value
}

// wrong: an error, and whether it stands alone.
func wrong(e api.Errno, alone bool) string {
	if !alone {
		return fmt.Sprintf("error %d, not alone", int(e))
	}
	return fmt.Sprintf("error %d", int(e))
}

// statusOf: that of a value: 1, if it is nothing's text.
func statusOf(value string) int {
	if strings.Trim(strings.TrimPrefix(value, "-"), "0") == "" && value != "-" {
		return 1
	}
	return 0
}

// test: what Test tells.
func test(g *fault.Gate, args ...string) string {
	so, e := expr.Test(g, args)
	if e != api.OK {
		return wrong(e, !so)
	}
	return strconv.FormatBool(so)
}

// evals: of each expression, its words parted by single spaces, what it comes to.
func evals(t *testing.T, of ...[2]string) {
	t.Helper()
	for _, v := range of {
		told(t, v[0], eval(words(v[0])...), v[1])
	}
}

// asks: of each of test's expressions, likewise.
func asks(t *testing.T, g *fault.Gate, of ...[2]string) {
	t.Helper()
	for _, v := range of {
		told(t, v[0], test(g, words(v[0])...), v[1])
	}
}

// allAsk: all of these expressions tell the same.
func allAsk(t *testing.T, g *fault.Gate, want string, of ...string) {
	t.Helper()
	for _, v := range of {
		told(t, v, test(g, words(v)...), want)
	}
}

// allEval: all of these expressions come to the same.
func allEval(t *testing.T, want string, of ...string) {
	t.Helper()
	for _, v := range of {
		told(t, v, eval(words(v)...), want)
	}
}

// repeated: words so often.
func repeated(n int, l ...string) []string { return slices.Repeat(l, n) }

// number: what a test's own line says.
func number(t *testing.T, s string, base int) int {
	t.Helper()
	n, err := strconv.ParseInt(s, base, 64)
	if err != nil {
		t.Fatal(err)
	}
	return int(n)
}

// grow: what a line says is made: d PATH (a directory), f PATH BYTES, l PATH
// TARGET (a symbolic link), h PATH OLD (one more name of OLD), m PATH MODE,
// o PATH UID GID (of a link itself), t PATH TIME (likewise).
func grow(t *testing.T, p *desc.Proc, line string) {
	t.Helper()
	w := strings.Fields(line)
	switch w[0] {
	case "d":
		good(t, line, p.Mkdir(w[1], 0o777))
	case "f":
		fd, e := p.Open(w[1], api.Write|api.Create|api.Excl, 0o666)
		good(t, line, e)
		n := number(t, w[2], 10)
		if got, e := p.Write(fd, make([]byte, n)); e != api.OK || got != n {
			t.Fatalf("%s: %d, %v", line, got, e)
		}
		good(t, line, p.Close(fd))
	case "l":
		good(t, line, p.Symlink(w[2], w[1]))
	case "h":
		good(t, line, p.Link(w[2], w[1]))
	case "m":
		good(t, line, p.Chmod(w[1], api.Mode(number(t, w[2], 8))))
	case "o":
		good(t, line, p.Chown(w[1], number(t, w[2], 10), number(t, w[3], 10), false))
	case "t":
		at := int64(number(t, w[2], 10))
		good(t, line, p.Utime(w[1], at, at, false))
	default:
		t.Fatal("no such line: ", line)
	}
}

// grown: root's process on a new file system in which these lines were made.
func grown(t *testing.T, lines ...string) *desc.Proc {
	t.Helper()
	fs, e := tree.New(900, 120)
	good(t, "tree.New", e)
	p, e := desc.New(fs, api.Cred{})
	good(t, "desc.New", e)
	for i, l := range lines {
		fs.Clock(int64(100 + i))
		grow(t, p, l)
	}
	fs.Clock(99999) // so that a time that is written down would show
	return p
}

// gate: a gate before such a process.
func gate(t *testing.T, lines ...string) *fault.Gate {
	t.Helper()
	return fault.New(grown(t, lines...))
}

// as: a gate before another one's process on the same file system.
func as(t *testing.T, p *desc.Proc, uid, gid int, groups ...int) *fault.Gate {
	t.Helper()
	q, e := desc.New(p.FS(), api.Cred{Uid: uid, Gid: gid, Groups: groups})
	good(t, "desc.New", e)
	return fault.New(q)
}

// state: all that is to be seen of a process and its file system.
func state(p *desc.Proc) string {
	var b strings.Builder
	fs := p.FS()
	cwd, e := p.Getcwd()
	fmt.Fprintln(&b, p.Cred(), cwd, e, p.Fds(), fs.Inodes(), fs.Used(), fs.Now())
	for _, ino := range fs.Inodes() {
		st, _ := fs.Info(ino)
		entries, _ := fs.Entries(ino)
		bytes, _ := fs.ReadAt(ino, 0, api.MaxFile)
		fmt.Fprintf(&b, "%+v %v %q\n", st, entries, bytes)
	}
	return b.String()
}

// everyList: those of at most so many of some words.
func everyList(most int, some ...string) [][]string {
	all := [][]string{nil}
	for from, n := 0, 0; n < most; n++ {
		end := len(all)
		for _, l := range all[from:end] {
			for _, s := range some {
				all = append(all, append(l[:len(l):len(l)], s))
			}
		}
		from = end
	}
	return all
}
