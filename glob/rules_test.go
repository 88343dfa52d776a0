package glob_test

import (
	"bytes"
	"fmt"
	"math"
	"slices"
	"strings"
	"sync"
	"testing"

	"tinsel/api"
	"tinsel/glob"
)

// The chapter's examples.
func TestExamples(t *testing.T) {
	matches(t, "a*b?", 0, "axxbc")
	matches(t, "[!a-c]x", 0, "dx")
	matches(t, "[]a]", 0, "]")
	matches(t, "[[:digit:]]", 0, "7")
	matches(t, "a\\*", 0, "a*")
	matches(t, "[a", 0, "[a")
	misses(t, "*", path, "a/b")
	misses(t, "*", period, ".a")
	misses(t, "[.]a", period, ".a")
	matches(t, "A[b-c]", fold, "aC")
	sets(t, "a-c[:digit:]", -1, "abc0123456789")
	sets(t, "[x*3]y", -1, "xxxy")
	sets(t, "[x*]y", 4, "xxxy")
	noSet(t, api.EINVAL, -1, "c-a")
	sets(t, "\\n\\101-C", -1, "\nABC")
	translates(t, "abc", "ab", "x", "xxc")
	squeezes(t, "aabbcc", "ab", "abcc")
}

// picture: what all calls say of two texts and a number.
func picture(one, two string, n int) string {
	a, b := []byte(one), []byte(two)
	class, e := glob.Class(one)
	return fmt.Sprint(glob.Match(one, two, n), glob.Magic(one), glob.Quote(one), glob.Filter(one, n, two, one, "", two), class, e,
		answer(glob.Set(one, n)), glob.Complement(a), answer(glob.Translate(a, b, a)), answer(glob.Translate(a, a, b)), glob.Delete(a, b), glob.Squeeze(a, b))
}

// oddTexts: some of them are patterns, sets, classes.
func oddTexts() []string {
	l := []string{"", "*", "?", "[", "]", "[]", "[]]", "[!", "[!]", "[!]]", "[a-", "[a-]", "[z-a]", "\\", "\\\\", "[\\", "[\\]", "[:", "[:]", "[::]", "[:x:]", "[[:digit:]]", "[[:digit:]", "[=", "[=a", "[=a=]", "a-", "c-a", "-", "--", "[x*]", "[x*0]", "[x*", "[x*5000]", "digit", ".", "/", "a/.b", "\x00", "\xff", "é", "\ufffd", "\\0-\\377", "\\777", "A*"}
	for _, s := range []string{"*", "?", "[", "]", "[]", "[!", "\\", "\\]", "a-", "-", "[:", ":]", "[=", "[x*", "[x*9", "[x*]", "\\1", "\xff", "[[:digit:]", "./"} {
		l = append(l, strings.Repeat(s, 100), strings.Repeat(s, 100)+"a")
	}
	return l
}

// Numbers at their ends, and in between: flags and sizes.
var oddNumbers = []int{0, 1, 2, 4, 8, 15, 16, -1, -2, -16, 4095, 4096, 4097, math.MaxInt, math.MaxInt - 1, math.MinInt, math.MinInt + 1, math.MaxInt32 + 1}

// R1, R4: no call panics, each ends, and says the same again.
func TestOddArguments(t *testing.T) {
	texts := oddTexts()
	for i, one := range texts {
		for j, two := range texts {
			n := oddNumbers[(i+j)%len(oddNumbers)]
			is(t, "again", picture(one, two, n), picture(strings.Clone(one), strings.Clone(two), n))
		}
		for _, n := range oddNumbers {
			is(t, "again", picture(one, "a", n), picture(one, "a", n))
		}
	}
}

// R3: nil and empty lists are the same.
func TestNoLists(t *testing.T) {
	is(t, "Complement", string(glob.Complement(nil)), string(glob.Complement([]byte{})))
	for _, b := range [][]byte{nil, {}} {
		for _, set := range [][]byte{nil, {}} {
			for _, to := range [][]byte{nil, {}, []byte("x")} {
				is(t, "Translate", answer(glob.Translate(b, set, to)), answer(nil, api.OK))
				is(t, "Translate", answer(glob.Translate([]byte("ab"), set, to)), answer([]byte("ab"), api.OK))
				is(t, "Translate", answer(glob.Translate(b, []byte("a"), set)), answer(nil, api.EINVAL))
			}
			is(t, "Delete", string(glob.Delete(b, set)), "")
			is(t, "Delete", string(glob.Delete([]byte("ab"), set)), "ab")
			is(t, "Squeeze", string(glob.Squeeze(b, set)), "")
			is(t, "Squeeze", string(glob.Squeeze([]byte("aab"), set)), "aab")
		}
		is(t, "Delete", string(glob.Delete(b, []byte("a"))), "")
		is(t, "Squeeze", string(glob.Squeeze(b, []byte("a"))), "")
	}
	var none []string
	if len(glob.Filter("*", 0, none...)) != 0 || len(glob.Filter("*", 0)) != 0 {
		t.Error("Filter of no names")
	}
}

// R1: great patterns and texts are gone through in a short time.
func TestGreatPatterns(t *testing.T) {
	const n = 1 << 18
	many := func(s string) string { return strings.Repeat(s, n/len(s)) }
	a := many("a")
	matches(t, a, 0, a)
	matches(t, many("*"), 0, a, "")
	matches(t, many("?"), 0, a)
	matches(t, many("a*"), 0, a+"b")
	misses(t, many("*a")+"b", 0, a)
	matches(t, many("\\a"), 0, a[:n/2])
	matches(t, many("["), 0, many("["))
	matches(t, many("[!"), 0, many("[!"))
	matches(t, many("[a-"), 0, many("[a-"))
	matches(t, many("[\\]"), 0, strings.Repeat("[]", n/3))
	matches(t, many("[[:digit:]"), 0, strings.Repeat("[d", n/10))
	matches(t, "*"+many("[[:digit:]"), 0, "xyz"+strings.Repeat("[d", n/10))
	matches(t, many("[")+"]", 0, "[")
	matches(t, "["+many("a-c")+"]", 0, "b")
	misses(t, "["+many("[:digit:]")+"]", 0, "b")
	matches(t, many("[ab]"), 0, a[:n/4])
	matches(t, "*[[:alpha:]]*", 0, many("5")+"a")
	misses(t, many("/"), path|period, a)
	matches(t, many("*/"), path|period, many("a/"))
	is(t, "Quote", glob.Quote(many("*")), many("\\*")+many("\\*"))
	magic(t, false, many("\\*"), many("\\"))
}

// R1: great texts of sets, likewise.
func TestGreatSets(t *testing.T) {
	const n = 1 << 18
	many := func(s string) string { return strings.Repeat(s, n/len(s)) }
	noSet(t, api.ERANGE, -1, many("a"), many("[:"), many("[="), many("[=a"), many("[x*"), many("[x*9"), many("\\"), many("\\777"), many("-"), many("[:digit:]"), many("[=a=]"), many("[x*99]"), many("a-c"), many("["), many("[:a-c"))
	noSet(t, api.EINVAL, -1, many("a")+"c-a", many("[:")+":]", "[:"+many("x")+":]", many("[x*]"), many("c-a"))
	noSet(t, api.EINVAL, 5, many("[x*]"), many("[x*0]"))
	sets(t, "[x*"+many("0")+"7]", -1, "xxxxxxx")
	sets(t, "[x*"+many("0")+"]", 3, "xxx")
	noSet(t, api.ERANGE, -1, "[x*"+many("7")+"]", "[x*0"+many("7")+"]", "[x*"+many("1")+"x]")
	b := []byte(many("ab"))
	translates(t, string(b), string(b), "xy", many("xy"))
	deletes(t, string(b), many("a"), many("b")[:n/2])
	squeezes(t, many("a"), many("a"), "a")
}

// R2: beside an error stands nothing.
func TestNothingBesideAnError(t *testing.T) {
	for _, s := range []string{"abcc-a", "abc[:x:]", "abc[y*][z*]", "[x*4096]y", "abc[x*5000]"} {
		if b, e := glob.Set(s, 9); len(b) != 0 || e == api.OK {
			t.Errorf("Set(%q): %q, %v", s, b, e)
		}
	}
	if b, e := glob.Class("digits"); len(b) != 0 || e != api.EINVAL {
		t.Errorf("Class: %q, %v", b, e)
	}
	if b, e := glob.Translate([]byte("abc"), []byte("a"), nil); len(b) != 0 || e != api.EINVAL {
		t.Errorf("Translate: %q, %v", b, e)
	}
}

// inRoom: a text with other bytes in the room behind its end.
func inRoom(s string) ([]byte, []byte) {
	all := append([]byte(s), "room behind the end"...)
	return all[:len(s)], all
}

// calls: those that take bytes, of three lists.
func calls() map[string]func(b, from, to []byte) []byte {
	return map[string]func(b, from, to []byte) []byte{
		"Complement": func(b, from, to []byte) []byte { return glob.Complement(from) },
		"Delete":     func(b, from, to []byte) []byte { return glob.Delete(b, from) },
		"Squeeze":    func(b, from, to []byte) []byte { return glob.Squeeze(b, from) },
		"Translate": func(b, from, to []byte) []byte {
			out, _ := glob.Translate(b, from, to)
			return out
		},
	}
}

// R3: what is handed in is not changed, nor what lies behind its end, which is not looked at.
func TestHandedInStays(t *testing.T) {
	for name, call := range calls() {
		for _, b := range []string{"", "a", "aabbcc", "xyz", "abcabc"} {
			for _, set := range []string{"", "a", "ab", "ba", "rom", "abc"} {
				one, allOne := inRoom(b)
				two, allTwo := inRoom(set)
				three, allThree := inRoom("xy")
				want := string(call([]byte(b), []byte(set), []byte("xy")))
				is(t, name, string(call(one, two, three)), want)
				is(t, name+": what was handed in", string(allOne)+string(allTwo)+string(allThree), b+"room behind the end"+set+"room behind the end"+"xyroom behind the end")
			}
		}
	}
	names := []string{"b", "a", "x", "c", "y"}
	had := slices.Clone(names)
	glob.Filter("[a-c]", 0, names[:3]...)
	if !slices.Equal(names, had) {
		t.Errorf("Filter changed %q", names)
	}
}

// spoil: all that belongs to a list, its spare room too.
func spoil(b []byte) {
	b = b[:cap(b)]
	for i := range b {
		b[i] = '#'
	}
}

// R3: an answer is new memory: neither an argument nor another answer changes by it.
func TestAnswerIsNew(t *testing.T) {
	for name, call := range calls() {
		for _, s := range []string{"", "a", "xyz", "aabbcc"} {
			b, from, to := []byte(s), []byte("ab"), []byte("xyz")
			one := call(b, from, to)
			want := string(one)
			spoil(call(b, from, to))
			is(t, name+": arguments", string(b)+string(from)+string(to), s+"abxyz")
			is(t, name+": the first answer", string(one), want)
			is(t, name+": the next answer", string(call(b, from, to)), want)
			spoil(b)
			spoil(from)
			spoil(to)
			is(t, name+": behind other arguments", string(one), want)
		}
	}
	for class, want := range classes() {
		one, _ := glob.Class(class)
		two, _ := glob.Class(class)
		spoil(two)
		is(t, class, string(one), want)
		is(t, class, answer(glob.Class(class)), answer([]byte(want), api.OK))
	}
	for _, s := range []string{"abc", "[:digit:]", "[x*3]y", "a[x*]b", "a-z", "[x*4096]"} {
		one, _ := glob.Set(s, 9)
		want := bytes.Clone(one)
		two, _ := glob.Set(s, 9)
		spoil(two)
		is(t, s, string(one), string(want))
		sets(t, s, 9, string(want))
	}
}

// R3: names that Filter tells are a list of their own.
func TestFilterIsNew(t *testing.T) {
	names := []string{"a", "b", "c", "d"}
	for _, n := range []int{0, 1, 4} {
		got := glob.Filter("*", 0, names[:n]...)
		for i := range got[:cap(got)] {
			got[:cap(got)][i] = "#"
		}
		is(t, "names", strings.Join(names, ""), "abcd")
	}
	got := glob.Filter("*", 0, names...)
	names[0] = "#"
	is(t, "told", strings.Join(got, ""), "abcd")
}

// R4: the same answers, whoever else asks at the same time.
func TestManyAtOnce(t *testing.T) {
	texts := oddTexts()
	want := make([]string, len(texts))
	for i, s := range texts {
		want[i] = picture(s, texts[len(texts)-1-i], oddNumbers[i%len(oddNumbers)])
	}
	got := make([]string, 4*len(texts))
	var all sync.WaitGroup
	for i := range got {
		all.Go(func() {
			at := i % len(texts)
			got[i] = picture(texts[at], texts[len(texts)-1-at], oddNumbers[at%len(oddNumbers)])
		})
	}
	all.Wait()
	for i := range got {
		is(t, "at once", got[i], want[i%len(texts)])
	}
}

// R6: sizes at an int's ends.
func TestSizesAtTheirEnds(t *testing.T) {
	for _, size := range []int{math.MinInt, math.MinInt + 1, -1} {
		noSet(t, api.EINVAL, size, "[x*]", "abc[x*]", "[x*5000][y*]")
		sets(t, "abc", size, "abc")
	}
	for _, size := range []int{math.MaxInt, math.MaxInt - 1, math.MaxInt32, math.MaxInt32 + 1, math.MaxUint32 + 1} {
		noSet(t, api.ERANGE, size, "[x*]", "abc[x*]", "[x*]abc")
		sets(t, "abc", size, "abc")
	}
}
