package expr_test

import (
	"fmt"
	"math/rand"
	"slices"
	"strings"
	"sync"
	"testing"

	"tinsel/api"
	"tinsel/expr"
	"tinsel/fault"
)

// The chapter's examples.
func TestExamples(t *testing.T) {
	evals(t, [2]string{"2 + 3 * 4", "14"}, [2]string{"a = a", "1"}, [2]string{"abc : a\\(.\\)", "b"}, [2]string{"abc : b", "0"}, [2]string{"1 / 0", inval}, [2]string{"-7 % 3", "-1"}, [2]string{"substr hello 2 3", "ell"}, [2]string{"length +", usage}, [2]string{"length + +", "1"}, [2]string{"", usage}, [2]string{"0 | ", "0"})
	asks(t, gate(t), [2]string{"", "false"}, [2]string{"x", "true"}, [2]string{"! x", "false"}, [2]string{"1 -eq 01", "true"}, [2]string{"a -eq 1", inval}, [2]string{"-d /", "true"}, [2]string{"a = a -a ! b = b", "false"}, [2]string{"( x )", "true"}, [2]string{"a b", usage})
	for s, want := range map[string]string{"2 + 3": "5 0 0", "abc : b": "0 1 0", "0 | ": "0 1 0", "substr a 2 1": " 1 0", "1 / 0": " 2 22", "1 1": " 2 100"} {
		value, status, e := expr.Eval(words(s))
		told(t, s, fmt.Sprint(value, " ", status, " ", int(e)), want)
	}
}

// oddWords: words of any bytes, and such as mean something.
func oddWords() []string {
	l := slices.Concat(looks, binaries(), unaries(), noOperators(), operators(), noIntegers(), tooGreat()[:9])
	l = append(l, "match", "substr", "index", "length", "\\(", "\\)", "[", "[a", "*", "\\(a*\\)*b", "a\\{1,255\\}", "/", "/f", "//", "a\x00b", "\x80\xfe", strings.Repeat("n", 300), strings.Repeat("/", 256), strings.Repeat("(", 50), most, "-"+most)
	return l
}

// oddLists: drawn ones of such words, of many lengths.
func oddLists(n int) [][]string {
	r := rand.New(rand.NewSource(189))
	l := [][]string{nil, {}, {""}, {"", ""}}
	some := oddWords()
	for i := range n {
		var one []string
		for range r.Intn(2 + i%30) {
			one = append(one, some[r.Intn(len(some))])
		}
		l = append(l, one)
	}
	for _, word := range some {
		for _, many := range []int{1, 2, 3, 4, 5, 100, api.MaxWords - 1, api.MaxWords, api.MaxWords + 1} {
			if len(word)*many < 50000 {
				l = append(l, repeated(many, word))
			}
		}
	}
	return l
}

// R1, R4: no call panics, each ends, and says the same again; nothing is changed by it.
func TestOddArguments(t *testing.T) {
	p := grown(t, kinds()...)
	ahead := state(p)
	for _, l := range oddLists(5000) {
		told(t, "Eval", eval(l...), eval(l...))
		told(t, "Test", test(fault.New(p), l...), test(fault.New(p), l...))
		told(t, "Test without a gate", test(nil, l...), efault)
	}
	for _, word := range oddWords() {
		n, ok := expr.Int(word)
		m, ok2 := expr.Int(word)
		told(t, "Int", fmt.Sprint(n, ok), fmt.Sprint(m, ok2))
	}
	told(t, "left behind", state(p), ahead)
}

// R3: nil and empty lists are the same.
func TestNoLists(t *testing.T) {
	g := gate(t)
	told(t, "Eval", eval(nil...), eval([]string{}...))
	told(t, "Test", test(g, nil...), test(g, []string{}...))
}

// R3: what is handed in is not changed, nor what lies behind its end, which is not looked at.
func TestHandedInStays(t *testing.T) {
	g := gate(t, kinds()...)
	for _, l := range append(oddLists(2000), words("1 + 2"), words("abc : a\\(.\\)"), words("! -d / -a x = x")) {
		all := append(slices.Clone(l), "+", "1", "-a", "x")
		had := slices.Clone(all)
		told(t, "Eval with room", eval(all[:len(l)]...), eval(l...))
		told(t, "Test with room", test(g, all[:len(l)]...), test(g, l...))
		if !slices.Equal(all, had) {
			t.Errorf("changed: %s, want %s", brief(fmt.Sprint(all)), brief(fmt.Sprint(had)))
		}
	}
}

// R2, R7: beside an error stands nothing; the status is 2.
func TestErrorsStandAlone(t *testing.T) {
	g := gate(t)
	for _, l := range oddLists(3000) {
		value, status, e := expr.Eval(l)
		if e != api.OK && (value != "" || status != 2) || e == api.OK && status > 1 {
			t.Errorf("Eval of %q: %q, %d, %v", l, value, status, e)
		}
		if so, e := expr.Test(g, l); e != api.OK && so {
			t.Errorf("Test of %q: %v, %v", l, so, e)
		}
	}
}

// R2: just the errors that the chapter names.
func TestErrorsThatAreNamed(t *testing.T) {
	g := gate(t, kinds()...)
	for _, l := range oddLists(5000) {
		if _, _, e := expr.Eval(l); !slices.Contains([]api.Errno{api.OK, api.EUSAGE, api.EINVAL, api.ERANGE, api.EREGEX}, e) {
			t.Errorf("Eval of %q: %v", l, e)
		}
		if _, e := expr.Test(g, l); !slices.Contains([]api.Errno{api.OK, api.EUSAGE, api.EINVAL, api.ERANGE}, e) {
			t.Errorf("Test of %q: %v", l, e)
		}
	}
}

// P18.2: a test changes neither the tree nor the process, and opens nothing.
func TestNothingIsChanged(t *testing.T) {
	p := grown(t, kinds()...)
	good(t, "Chdir", p.Chdir("/d"))
	_, e := p.Open("/f", api.Read, 0)
	good(t, "Open", e)
	for _, q := range []*fault.Gate{fault.New(p), as(t, p, 1, 1)} {
		ahead := state(q.Proc())
		for _, op := range unaries() {
			for _, path := range list("/f", "/ld", "/no", "/x", ".", "../f") {
				test(q, op, path)
				test(q, "!", op, path)
			}
		}
		for _, op := range binaries() {
			for _, path := range list("/f", "/ld", "/no", "/x", ".") {
				test(q, path, op, "../f")
			}
		}
		told(t, "left behind", state(q.Proc()), ahead)
	}
}

// R5: a gate that no more is one that a call made.
func TestGateThatIsNoMore(t *testing.T) {
	g := gate(t)
	told(t, "a gate", test(g, "-d", "/"), "true")
	*g = fault.Gate{}
	told(t, "no gate", test(g, "-d", "/"), efault)
	told(t, "no words", test(g), efault)
}

// R4: a test sees what the tree is like at that time.
func TestAsItIsNow(t *testing.T) {
	g := gate(t)
	told(t, "ahead", test(g, "-e", "/f"), "false")
	fd, e := g.Open("/f", api.Write|api.Create, 0o666)
	good(t, "Open", e)
	told(t, "made", test(g, "-f", "/f", "-a", "!", "-s", "/f"), "true")
	_, e = g.Write(fd, []byte("x"))
	good(t, "Write", e)
	told(t, "written", test(g, "-s", "/f"), "true")
	good(t, "Unlink", g.Unlink("/f"))
	told(t, "gone", test(g, "-e", "/f"), "false")
}

// R4: many at once tell what one tells.
func TestManyAtOnce(t *testing.T) {
	lists := oddLists(300)
	p := grown(t, kinds()...)
	var want []string
	for _, l := range lists {
		want = append(want, eval(l...)+test(fault.New(p), l...))
	}
	var all sync.WaitGroup
	for range 8 {
		g := fault.New(grown(t, kinds()...))
		all.Go(func() {
			for i, l := range lists {
				if got := eval(l...) + test(g, l...); got != want[i] {
					t.Errorf("%q: %s, want %s", l, got, want[i])
				}
			}
		})
	}
	all.Wait()
}

// R1: what is great ends, and soon.
func TestMuchInShortTime(t *testing.T) {
	g := gate(t)
	long := strings.Repeat("x", 1<<20)
	digits := strings.Repeat("9", 1<<20)
	for range 20 {
		told(t, "index", eval("index", long, strings.Repeat("a", 1<<20)), "0")
		told(t, "substr", eval("substr", long, most, "1"), "")
		told(t, "far numbers", eval(digits, "+", "1"), ranges)
		told(t, "far numbers", eval(digits, "|", "1"), digits)
		told(t, "nested", eval(slices.Concat(repeated(2047, "("), list("1"), repeated(2047, ")"))...), "1")
		told(t, "nested to the right", eval(slices.Concat(repeated(1364, "(", "1", "+"), list("1"), repeated(3, ")"))...), usage)
		told(t, "nested to the right", eval(slices.Concat(repeated(1000, "1", "+", "("), list("1"), repeated(1000, ")"))...), "1001")
		told(t, "test of many", test(g, append(repeated(2047, "", "-o"), "", "-n")...), usage)
		told(t, "test of many brackets", test(g, slices.Concat(repeated(1000, "!", "("), list("x"), repeated(1000, ")"))...), "true")
	}
}
