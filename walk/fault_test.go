package walk_test

import (
	"fmt"
	"math/rand"
	"slices"
	"testing"

	"tinsel/api"
	"tinsel/fault"
	"tinsel/walk"
)

// plain: the lines of a tree that the tests below let fail.
func plain() []string {
	return list("d /a", "f /a/y 1", "d /a/d", "f /a/d/x 1", "l /a/l d", "l /a/no x")
}

// P14.7: what is told where one call fails, by how many calls.
func TestOneFailure(t *testing.T) {
	for _, v := range []struct {
		flags int
		fail  api.Choice
		want  []string
		calls []int
	}{
		{post, fails("lstat", 1, api.EIO), list("err /a 0 5"), []int{0, 0, 0, 0, 1}},
		{post, fails("lstat", 2, api.EACCES), list("pre /a 0", "err /a/y 1 13", "pre /a/d 1", "file /a/d/x 2", "post /a/d 1", "file /a/l 1", "file /a/no 1", "post /a 0"), []int{2, 11, 2, 0, 6}},
		{post, fails("lstat", 3, api.EIO), list("pre /a 0", "file /a/y 1", "err /a/d 1 5", "file /a/l 1", "file /a/no 1", "post /a 0"), []int{1, 7, 1, 0, 5}},
		{post, fails("open", 1, api.EINTR), list("pre /a 0", "err /a 0 4", "post /a 0"), []int{1, 0, 0, 0, 1}},
		{0, fails("open", 1, api.EMFILE), list("pre /a 0", "err /a 0 24"), []int{1, 0, 0, 0, 1}},
		{post, fails("open", 2, api.EROFS), list("pre /a 0", "file /a/y 1", "pre /a/d 1", "err /a/d 1 30", "post /a/d 1", "file /a/l 1", "file /a/no 1", "post /a 0"), []int{2, 7, 1, 0, 5}},
		{post, fails("readdir", 1, api.EIO), list("pre /a 0", "err /a 0 5", "post /a 0"), []int{1, 1, 1, 0, 1}},
		{post, fails("readdir", 3, api.EIO), list("pre /a 0", "err /a 0 5", "post /a 0"), []int{1, 3, 1, 0, 1}},
		{post, fails("readdir", 4, api.EIO), list("pre /a 0", "err /a 0 5", "file /a/y 1", "post /a 0"), []int{1, 4, 1, 0, 2}},
		{sorted, fails("readdir", 5, api.EIO), list("pre /a 0", "err /a 0 5", "pre /a/d 1", "file /a/d/x 2", "file /a/y 1"), []int{2, 9, 2, 0, 4}},
		{0, fails("readdir", 7, api.EIO), list("pre /a 0", "err /a 0 5", "file /a/y 1", "pre /a/d 1", "file /a/d/x 2", "file /a/l 1", "file /a/no 1"), []int{2, 11, 2, 0, 6}},
		{0, fails("readdir", 11, api.EIO), list("pre /a 0", "file /a/y 1", "pre /a/d 1", "err /a/d 1 5", "file /a/d/x 2", "file /a/l 1", "file /a/no 1"), []int{2, 11, 2, 0, 6}},
		{0, fails("close", 1, api.EIO), list("pre /a 0", "err /a 0 5", "file /a/y 1", "pre /a/d 1", "file /a/d/x 2", "file /a/l 1", "file /a/no 1"), []int{2, 11, 2, 0, 6}},
		{post, fails("close", 2, api.EIO), list("pre /a 0", "file /a/y 1", "pre /a/d 1", "err /a/d 1 5", "file /a/d/x 2", "post /a/d 1", "file /a/l 1", "file /a/no 1", "post /a 0"), []int{2, 11, 2, 0, 6}},
		{roots, fails("stat", 1, api.EIO), list("err /a 0 5"), []int{0, 0, 0, 1, 0}},
		{logical, fails("stat", 1, api.EACCES), list("err /a 0 13"), []int{0, 0, 0, 1, 0}},
		{logical, fails("stat", 5, api.EIO), list("pre /a 0", "file /a/y 1", "pre /a/d 1", "file /a/d/x 2", "err /a/l 1 5", "file /a/no 1"), []int{2, 11, 2, 6, 1}},
		{logical, fails("stat", 7, api.EIO), list("pre /a 0", "file /a/y 1", "pre /a/d 1", "file /a/d/x 2", "pre /a/l 1", "file /a/l/x 2", "err /a/no 1 5"), []int{3, 15, 3, 7, 0}},
		{logical, fails("lstat", 1, api.EIO), list("pre /a 0", "file /a/y 1", "pre /a/d 1", "file /a/d/x 2", "pre /a/l 1", "file /a/l/x 2", "err /a/no 1 5"), []int{3, 15, 3, 7, 1}},
	} {
		p := grown(t, plain()...)
		ahead := state(p)
		g := fault.New(p, v.fail)
		what := fmt.Sprintf("%+v", v.fail)
		l := asked(t, walk.New(g, v.flags, -1, "/a"))
		same(t, what, text(l), text0(v.want))
		counted(t, what, g, v.calls...)
		same(t, what+": Given", g.Given(), []api.Choice{v.fail})
		for _, x := range l {
			st, e := p.Lstat(x.Path)
			if v.flags == logical && x.Path == "/a/l" {
				st, e = p.Stat(x.Path)
			}
			if x.Kind == api.VisitErr && (v.fail.Call == "stat" || v.fail.Call == "lstat") {
				st = api.Stat{}
			}
			same(t, what+": "+line(x), []any{x.Stat, e}, []any{st, api.OK})
		}
		same(t, what+": Fds", len(g.Fds()), map[bool]int{true: 1}[v.fail.Call == "close"])
		g.CloseAll()
		same(t, what+": left behind", state(p), ahead)
	}
}

// text0: lines, as text tells them.
func text0(l []string) string {
	s := ""
	for _, x := range l {
		s += x + "\n"
	}
	return s
}

// P14.7: each call of a walk fails in turn, by each error that it may fail by.
func TestEachFailure(t *testing.T) {
	p := grown(t, append(plain(), "d /e", "l /a/d/up ..", "l /r a", "l /a/me me")...)
	for flags := range 16 {
		for _, depth := range []int{-1, 1} {
			s := scene{p: p, flags: flags, depth: depth, from: list("/a", "/x", "/r", "/e"), skip: never}
			g := fault.New(twin(t, p))
			asked(t, walk.New(g, flags, depth, s.from...))
			for _, call := range callNames {
				for nth := 1; nth <= g.Count(call)+1; nth++ {
					for _, e := range lawful(call) {
						s.plan = []api.Choice{fails(call, nth, e)}
						s.follows(t)
					}
				}
			}
		}
	}
}

// P14.7: all calls of a name fail, from one of them on.
func TestAllFail(t *testing.T) {
	p := grown(t, append(plain(), "d /e", "d /e/e", "d /e/e/e", "f /e/e/e/e 1")...)
	for _, call := range callNames {
		for _, from := range []int{1, 2, 4, 7} {
			for flags := range 16 {
				s := scene{p: p, flags: flags, depth: -1, from: list("/a", "/e", "/"), skip: never}
				for i := range 200 {
					s.plan = append(s.plan, fails(call, from+i, api.EIO))
				}
				s.follows(t)
				s.sums(t)
			}
		}
	}
}

// Descriptors that a failing Close leaves open are at last too many, which is
// told like any other error.
func TestCloseFailsForever(t *testing.T) {
	var plan []api.Choice
	for i := range 100 {
		plan = append(plan, fails("close", 1+i, api.EIO))
	}
	g := fault.New(grown(t, "d /a"), plan...)
	for i := range api.OpenMax + 3 {
		want := "pre /a 0\nerr /a 0 5\npost /a 0\n"
		if i >= api.OpenMax {
			want = "pre /a 0\nerr /a 0 24\npost /a 0\n"
		}
		same(t, fmt.Sprint("walk ", i), text(asked(t, walk.New(g, post, -1, "/a"))), want)
	}
	same(t, "Fds", len(g.Fds()), api.OpenMax)
}

// P14.7: plans of many failures.
func TestManyFailures(t *testing.T) {
	r := rand.New(rand.NewSource(7))
	p := grown(t, append(plain(), "d /a/d/e", "f /a/d/e/f 1", "l /a/d/e/up ../..", "d /b", "l /b/a ../a")...)
	for range 1500 {
		s := scene{p: p, flags: r.Intn(16), depth: r.Intn(5) - 1, from: list("/b", "/a"), skip: never}
		for range 1 + r.Intn(10) {
			call := callNames[r.Intn(len(callNames))]
			can := lawful(call)
			s.plan = append(s.plan, fails(call, 1+r.Intn(20), can[r.Intn(len(can))]))
		}
		if r.Intn(3) == 0 {
			s.skip = func(step int) bool { return step%4 == 3 }
		}
		s.follows(t)
		s.sums(t)
	}
}

// Choices that may not be given, and short ones, change nothing.
func TestFailuresThatMayNotBe(t *testing.T) {
	var plan []api.Choice
	for _, call := range append(slices.Clone(callNames), "read", "fstat", "readlink", "access", "getcwd") {
		for nth := range 30 {
			for e := api.Errno(-1); e <= 110; e++ {
				if !fault.Legal(call, e) && len(plan) < 900 && (int(e)+nth)%7 == 0 {
					plan = append(plan, fails(call, nth, e))
				}
			}
			plan = append(plan, api.Choice{Call: call, Nth: nth, Short: 1})
		}
	}
	for flags := range 16 {
		g := fault.New(grown(t, plain()...), plan[:min(len(plan), api.MaxPlan)]...)
		want := asked(t, walk.New(gate(t, plain()...), flags, -1, "/a", "/x"))
		same(t, fmt.Sprint("flags ", flags), text(asked(t, walk.New(g, flags, -1, "/a", "/x"))), text(want))
		same(t, "Given", g.Given(), []api.Choice{})
	}
}
