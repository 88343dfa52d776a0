package fault_test

import (
	"fmt"
	"slices"
	"testing"

	"tinsel/api"
	"tinsel/desc"
	"tinsel/fault"
)

// The model: a process on a file system of its own, beside which all calls
// are written down; what is chosen is looked up anew at each of them.

type model struct {
	p     *desc.Proc
	plan  []api.Choice
	calls []string
	given []api.Choice
}

// number: how many calls of that name there were.
func (m *model) number(call string) int {
	n := 0
	for _, x := range m.calls {
		if x == call {
			n++
		}
	}
	return n
}

// chosen: what is given to the last call.
func (m *model) chosen(call string) (api.Choice, bool) {
	for i, c := range m.plan {
		if i >= 1000 || c.Call != call || c.Nth != m.number(call) {
			continue
		}
		if c.Errno != 0 && slices.Contains(lawful[call], c.Errno) {
			return c, true
		}
		if c.Errno == 0 && c.Short > 0 && (call == "read" || call == "write") {
			return c, true
		}
	}
	return api.Choice{}, false
}

func (m *model) do(s step) string {
	if !slices.Contains(names, s.call) {
		return do(m.p, s)
	}
	m.calls = append(m.calls, s.call)
	c, ok := m.chosen(s.call)
	switch {
	case !ok:
		return do(m.p, s)
	case c.Errno != 0:
		m.given = append(m.given, c)
		return zeros(s.call, c.Errno)
	}
	m.given = append(m.given, c)
	if s.call == "read" && s.n > c.Short {
		s.n = c.Short
	}
	if s.call == "write" && len(s.bytes) > c.Short {
		s.bytes = s.bytes[:c.Short]
	}
	return do(m.p, s)
}

// choice: any one, mostly of those that may be given.
func (d *dice) choice() api.Choice {
	c := api.Choice{Call: pick(d, names), Nth: 1 + d.below(40)}
	if d.below(3) == 0 {
		c.Call = pick(d, []string{"read", "write", "open"})
	}
	switch d.below(5) {
	case 0:
		c.Errno = api.Errno(d.below(42) - 1)
	case 1:
		c.Short = d.below(70) - 1
	case 2:
		c.Errno, c.Short = pick(d, lawful[c.Call]), d.below(5)-2
	default:
		c.Errno = pick(d, lawful[c.Call])
	}
	if d.below(12) == 0 {
		c.Call = pick(d, noCalls)
	}
	if d.below(12) == 0 {
		c.Nth = d.below(3) - 2
	}
	return c
}

func (m *model) compare(t *testing.T, what string, g *fault.Gate) bool {
	t.Helper()
	was := t.Failed()
	given(t, g, m.given...)
	same(t, what+": Calls", g.Calls(), len(m.calls))
	for _, call := range names {
		same(t, what+": Count of "+call, g.Count(call), m.number(call))
	}
	same(t, what+": state", state(g.Proc()), state(m.p))
	return t.Failed() == was
}

// P8.2, P8.4, P8.5: of any plan and any calls.
func TestModel(t *testing.T) {
	all := 0
	for seed := range 60 {
		d := dice(seed)
		var plan []api.Choice
		for range []int{0, 5, 60, 300, 1000, 1300}[seed%6] {
			plan = append(plan, d.choice())
		}
		m := &model{p: busy(t), plan: plan}
		g := fault.New(busy(t), plan...)
		for n := range 500 {
			g.FS().Clock(int64(n))
			m.p.FS().Clock(int64(n))
			s := d.step()
			what := fmt.Sprintf("seed %d, step %d: %v", seed, n, s)
			got, want := do(g, s), m.do(s)
			same(t, what, got, want)
			if got != want || n%20 == 0 && !m.compare(t, what, g) {
				return
			}
		}
		m.compare(t, fmt.Sprint("seed ", seed), g)
		same(t, fmt.Sprint("seed ", seed, ": places"), used(g.Proc()), used(m.p))
		planned(t, g, plan)
		all += len(m.given)
	}
	if all < 1000 {
		t.Errorf("only %d choices were given in all", all)
	}
}

// planned: P8.5: each that is given was planned, and as often at most.
func planned(t *testing.T, g *fault.Gate, plan []api.Choice) {
	t.Helper()
	left := slices.Clone(plan[:min(len(plan), api.MaxPlan)])
	for _, c := range g.Given() {
		at := slices.Index(left, c)
		if at < 0 {
			t.Errorf("%+v was not planned, or not so often", c)
			return
		}
		left = slices.Delete(left, at, at+1)
	}
}

// P8.3: without a choice that may be given the gate is the process.
func TestNothing(t *testing.T) {
	var never []api.Choice
	for _, call := range names {
		for nth := 1; nth < 20; nth++ {
			never = append(never, fails(call, nth, api.EBADF), short(call, nth, 0))
		}
		never = append(never[:len(never)-8], fails(call, 0, api.EIO), fails(call, 1<<20, api.EIO))
	}
	if len(never) > api.MaxPlan {
		t.Fatalf("the plan is too long: %d", len(never))
	}
	for seed := range 40 {
		d := dice(1000 + seed)
		p, g := busy(t), fault.New(busy(t))
		if seed%2 == 0 {
			g = fault.New(busy(t), never...)
		}
		seen := 0
		for n := range 400 {
			s := d.step()
			what := fmt.Sprintf("seed %d, step %d: %v", seed, n, s)
			got, want := do(g, s), do(p, s)
			if slices.Contains(names, s.call) {
				seen++
			}
			same(t, what, got, want)
			same(t, what+": Calls", g.Calls(), seen)
			if got != want {
				return
			}
		}
		same(t, fmt.Sprint("seed ", seed, ": state"), state(g.Proc()), state(p))
		same(t, fmt.Sprint("seed ", seed, ": places"), used(g.Proc()), used(p))
		given(t, g)
	}
}
