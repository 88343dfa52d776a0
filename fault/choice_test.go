package fault_test

import (
	"fmt"
	"math"
	"slices"
	"testing"

	"tinsel/api"
	"tinsel/fault"
)

// answers: the errors of so many Mkdirs of the same name, each of which would
// go well, as it is taken away between.
func answers(t *testing.T, g *fault.Gate, n int) []api.Errno {
	t.Helper()
	var l []api.Errno
	for range n {
		l = append(l, g.Mkdir("/x", 0o755))
		g.Proc().Rmdir("/x")
	}
	return l
}

func list(l ...api.Errno) []api.Errno { return l }

// P8.2: a choice is meant for the call of its name with its number.
func TestNumberOfTheCall(t *testing.T) {
	for nth := 1; nth <= 5; nth++ {
		c := fails("mkdir", nth, api.EROFS)
		g := fault.New(made(t), c)
		want := make([]api.Errno, 6)
		want[nth-1] = api.EROFS
		for i := range want {
			given(t, g, []api.Choice{c}[:min(max(0, i+1-nth), 1)]...)
			same(t, fmt.Sprint("number ", nth, ", call ", i+1), answers(t, g, 1), want[i:i+1])
		}
		given(t, g, c)
		counted(t, g, 6, map[string]int{"mkdir": 6, "rmdir": 0})
	}
}

// P8.2: numbers that no call has.
func TestNumberOfNoCall(t *testing.T) {
	for _, nth := range []int{0, -1, -2, math.MinInt, 8, 1000, math.MaxInt} {
		g := fault.New(made(t), fails("mkdir", nth, api.EIO))
		same(t, fmt.Sprint("number ", nth), answers(t, g, 7), make([]api.Errno, 7))
		given(t, g)
	}
}

// P8.2: each name has numbers of its own.
func TestNumbersByNames(t *testing.T) {
	g := fault.New(busy(t), fails("stat", 2, api.EACCES), fails("lstat", 1, api.EIO))
	for i, v := range []struct {
		call string
		fail api.Errno
	}{{"stat", 0}, {"getcwd", 0}, {"lstat", api.EIO}, {"stat", api.EACCES}, {"lstat", 0}, {"stat", 0}, {"stat", 0}} {
		got, own := do(g, working(v.call)), do(g.Proc(), working(v.call))
		if v.fail != api.OK {
			own = zeros(v.call, v.fail)
		}
		same(t, fmt.Sprint(v.call, ", call ", i+1), got, own)
	}
	given(t, g, fails("lstat", 1, api.EIO), fails("stat", 2, api.EACCES)) // in the order of the calls
	counted(t, g, 7, map[string]int{"stat": 4, "lstat": 2, "getcwd": 1, "open": 0})
}

// P8.2: of several choices for one call the first one that may be given.
func TestSeveralChoices(t *testing.T) {
	no := []api.Choice{fails("mkdir", 1, api.EBADF), fails("mkdir", 1, api.EINTR), fails("mkdir", 1, -1), short("mkdir", 1, 3), fails("Mkdir", 1, api.EIO), {Call: "mkdir", Nth: 1}, fails("mkdir", 0, api.EIO)}
	eio, perm := fails("mkdir", 1, api.EIO), fails("mkdir", 1, api.EPERM)
	again := api.Choice{Call: "mkdir", Nth: 1, Errno: api.EIO, Short: 9}
	for _, v := range []struct {
		plan []api.Choice
		want api.Choice
	}{
		{[]api.Choice{eio, perm}, eio},
		{[]api.Choice{perm, eio}, perm},
		{[]api.Choice{eio, eio}, eio},
		{[]api.Choice{again, eio}, again},
		{append(slices.Clone(no), perm), perm},
		{append(slices.Clone(no), perm, eio), perm},
		{append([]api.Choice{eio}, no...), eio},
		{slices.Concat(no, no, []api.Choice{again, perm}, no), again},
	} {
		g := fault.New(made(t), v.plan...)
		same(t, fmt.Sprintf("plan %+v", v.plan), answers(t, g, 3), list(v.want.Errno, 0, 0))
		given(t, g, v.want)
	}
	g := fault.New(made(t), no...)
	same(t, "none may be given", answers(t, g, 3), list(0, 0, 0))
	given(t, g)
}

// P8.2: choices of several calls, planned in any order.
func TestSeveralCalls(t *testing.T) {
	a, b, c := fails("mkdir", 4, api.EIO), fails("mkdir", 1, api.ENOSPC), fails("mkdir", 2, api.EMLINK)
	for _, plan := range [][]api.Choice{{a, b, c}, {c, b, a}, {b, c, a}, {a, a, c, b, c, b}} {
		g := fault.New(made(t), plan...)
		same(t, fmt.Sprintf("plan %+v", plan), answers(t, g, 6), list(api.ENOSPC, api.EMLINK, 0, api.EIO, 0, 0))
		given(t, g, b, c, a)
	}
}

// P8.2: what Short says beside an error, or of another call, is nothing.
func TestShortOfOthers(t *testing.T) {
	for _, n := range []int{math.MinInt, -1, 0, 1, 3, math.MaxInt} {
		c := api.Choice{Call: "read", Nth: 1, Errno: api.EIO, Short: n}
		g := fault.New(busy(t), c)
		noGet(t, g, tape, 4, api.EIO)
		gets(t, g, tape, 4, "the ")
		given(t, g, c)
		c = api.Choice{Call: "write", Nth: 1, Errno: api.EMFILE, Short: n} // Legal of another call alone
		g = fault.New(busy(t), c)
		puts(t, g, tape, "four", 4)
		given(t, g)
		for _, call := range slices.Concat(names, noCalls) {
			if call == "read" || call == "write" {
				continue
			}
			g := fault.New(busy(t), short(call, 1, n))
			if works[call] != (step{}) || call == "pipe" || call == "getcwd" {
				same(t, "short "+call, do(g, working(call)), do(busy(t), working(call)))
			}
			given(t, g)
		}
	}
}

// P8.1: of a plan the first MaxPlan choices count.
func TestLongPlan(t *testing.T) {
	eio := fails("mkdir", 1, api.EIO)
	never := fails("mkdir", 1, api.EBADF) // such ones count, too
	for _, v := range []struct {
		ahead int
		want  api.Errno
	}{{0, api.EIO}, {1, api.EIO}, {998, api.EIO}, {999, api.EIO}, {1000, 0}, {1001, 0}, {5000, 0}} {
		g := fault.New(made(t), append(slices.Repeat([]api.Choice{never}, v.ahead), eio, fails("mkdir", 3, api.EIO))...)
		want := list(v.want, 0, 0)
		if v.ahead < 999 {
			want[2] = api.EIO
		}
		same(t, fmt.Sprint(v.ahead, " ahead"), answers(t, g, 3), want)
	}
	var plan []api.Choice
	for i := range 1500 {
		plan = append(plan, fails("mkdir", 1500-i, list(api.EIO, api.EPERM, api.EROFS)[i%3]))
	}
	g := fault.New(made(t), plan...)
	for i, e := range answers(t, g, 1600) {
		want := api.OK
		if at := 1500 - (i + 1); 0 <= at && at < 1000 {
			want = plan[at].Errno
		}
		is(t, fmt.Sprint("call ", i+1), e, want)
	}
	slices.Reverse(plan[:1000])
	given(t, g, plan[:1000]...)
	g = fault.New(made(t))
	same(t, "no plan", answers(t, g, 3), list(0, 0, 0))
	given(t, g)
	g = fault.New(made(t), nil...)
	same(t, "a nil plan", answers(t, g, 3), list(0, 0, 0))
	given(t, g)
}
