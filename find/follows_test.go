package find_test

import (
	"fmt"
	"math/rand"
	"slices"
	"testing"

	"tinsel/api"
	"tinsel/find"
)

// comesBack: the words of an expression, as it is written out, tell it again, and all that hangs on it.
func comesBack(t *testing.T, x *find.Expr) {
	t.Helper()
	text := x.String()
	if len(split(text)) > api.MaxWords {
		return // they are none
	}
	roots, y, e := find.Parse(split(text))
	if e != api.OK || !slices.Equal(roots, []string{"."}) {
		t.Errorf("%s: %q, %d", short(text), roots, int(e))
		return
	}
	agree(t, text, y.String(), text)
	a, b, c := x.Depths()
	d, f, g := y.Depths()
	agree(t, text+": depths", fmt.Sprint(d, f, g), fmt.Sprint(a, b, c))
	agree(t, text+": files", fmt.Sprintf("%q", y.Newer()), fmt.Sprintf("%q", x.Newer()))
}

// P20.4: what is written out is the same expression.
func TestWrittenOutComesBack(t *testing.T) {
	everyList(5, split("( ) ! , -o -a -true -print"), func(l []string) {
		if _, x, e := find.Parse(l); e == api.OK {
			comesBack(t, x)
		}
	})
	for _, s := range []string{
		"", "a b", "-newer a -o -newer b", "-mindepth 1 -maxdepth 02 -depth", "-exec a {} ( ! , ; -o -ls", "-name ( -o -name ) -o -name ! -o -name , -o -path -o", "-perm -u+r -perm /7 -perm 644", "-size +3k , -size -2 , -size 1b",
		"-newer -newer -newer -print", "! ! ( -prune , -quit )", "-exec -exec -exec ; -exec ! ;", "-delete -mtime -1 -amin +2 -cmin 3", "-name \xff\x00 -iname \n", often(1000, "-true"), often(1000, "-true ,") + " -ls", often(1000, "-true -o") + " -ls", often(2000, "!") + " -false",
	} {
		comesBack(t, of(t, s))
	}
	c := cases{rand.New(rand.NewSource(204))}
	for range 3000 {
		comesBack(t, of(t, c.words(c.draw(6), 0)))
	}
}

// P20.5: ! E is true just if E is not.
func TestNot(t *testing.T) {
	c := cases{rand.New(rand.NewSource(205))}
	trues, falses := 0, 0
	for range 4000 {
		args, v := c.words(c.draw(4), 0), c.visit()
		v.Kind = api.VisitFile
		now, statuses := int64(c.number()), []int{c.Intn(2), c.Intn(2), c.Intn(2)}
		f, g := of(t, args).Try(v, now, statuses), of(t, "! ( "+args+" )").Try(v, now, statuses)
		switch {
		case f.Quit && g.Quit:
		case f.True && !g.True:
			trues++
		case g.True && !f.True:
			falses++
		default:
			t.Errorf("%s of %+v: %+v, not: %+v", args, v, f, g)
		}
	}
	if trues < 500 || falses < 500 {
		t.Errorf("only %d true, %d false", trues, falses)
	}
}

// P20.5: E -o ! E is true. (Its runs have numbers of their own in the second E: all statuses are the same here.)
func TestEither(t *testing.T) {
	c := cases{rand.New(rand.NewSource(55))}
	count := 0
	for range 4000 {
		args, v := c.words(c.draw(4), 0), c.visit()
		v.Kind = api.VisitFile
		for _, statuses := range [][]int{nil, make([]int, 1000)} {
			f := of(t, "( "+args+" ) -o ! ( "+args+" )").Try(v, int64(c.number()), statuses)
			if f.True == f.Quit {
				t.Errorf("%s, or not, of %+v: %+v", args, v, f)
			}
			if f.True {
				count++
			}
		}
	}
	if count < 4000 {
		t.Errorf("only %d", count)
	}
}

// P20.6: with more statuses the same runs are told as long as there were statuses, and one more.
func TestMoreStatuses(t *testing.T) {
	c := cases{rand.New(rand.NewSource(206))}
	count := 0
	for range 4000 {
		x := of(t, c.words(&node{op: c.pick("-a", "-o", ","), left: &node{leaf: c.executing()}, right: c.draw(4)}, 0))
		v := c.visit()
		v.Kind = api.VisitFile
		var statuses []int
		for range 12 {
			statuses = append(statuses, c.Intn(2))
		}
		all := x.Try(v, 0, statuses).Run
		for n := range statuses {
			few := x.Try(v, 0, statuses[:n]).Run
			same := min(len(all), n+1)
			if len(few) < same || fmt.Sprint(few[:same]) != fmt.Sprint(all[:same]) {
				t.Errorf("%s, %d of %v: %q, of all %q", x, n, statuses, few, all)
			}
			count += same
		}
	}
	if count < 20000 {
		t.Errorf("only %d runs", count)
	}
}

// P20.6: so a caller may run a command at a time, and try again, until all that is told has run.
func TestRunOneByOne(t *testing.T) {
	x := of(t, "-exec a ; -o -exec b ; -exec c ; , ! -exec d ; -o -exec e ;")
	answers := map[string]int{"a": 1, "b": 0, "c": 3, "d": 0, "e": 0}
	var statuses []int
	ran := ""
	for {
		f := x.Try(file("p"), 0, statuses)
		if len(f.Run) == len(statuses) {
			agree(t, "at the end", fmt.Sprint(f.True), "true")
			break
		}
		word := f.Run[len(statuses)][0]
		ran += word
		statuses = append(statuses, answers[word])
	}
	agree(t, "what ran", ran, "abcde")
}
