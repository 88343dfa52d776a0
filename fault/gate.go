// Package fault is layer 8: see shared/doc/08-fault.md.
package fault

import (
	"maps"
	"slices"

	"tinsel/api"
	"tinsel/desc"
)

// door is a process, and what is to become and has become of its calls. The
// calls that it promotes are the process' own: nothing counts them. It stands
// between gate and process, as the gate has a method of the process' name, and
// as of a gate that is nil nothing can be promoted.
type door struct {
	*desc.Proc
	plan   map[moment]api.Choice
	counts map[string]int
	given  []api.Choice
}

// moment is the call of a name that has that number.
type moment struct {
	call string
	nth  int
}

// Gate is a process of which a plan lets calls fail, or do less.
type Gate struct{ door }

// New: a gate before p.
func New(p *desc.Proc, plan ...api.Choice) *Gate {
	if p.FS() == nil { // no call made it
		return &Gate{}
	}
	d := door{Proc: p, plan: map[moment]api.Choice{}, counts: map[string]int{}}
	for _, c := range plan[:min(len(plan), api.MaxPlan)] {
		at := moment{c.Call, c.Nth}
		if _, taken := d.plan[at]; !taken && mayBeGiven(c) {
			d.plan[at] = c
		}
	}
	return &Gate{d}
}

// reach: the gate's door; of no gate one that leads to no process, of which
// all calls answer EFAULT and zeros.
func (g *Gate) reach() *door {
	if g == nil {
		return &door{}
	}
	return &g.door
}

// Proc: the process behind it.
func (g *Gate) Proc() *desc.Proc { return g.reach().Proc }

// Calls: how many calls it saw.
func (g *Gate) Calls() int {
	all := 0
	for n := range maps.Values(g.reach().counts) {
		all += n
	}
	return all
}

// Count: how many of that name.
func (g *Gate) Count(call string) int { return g.reach().counts[call] }

// Given: the choices that were given.
func (g *Gate) Given() []api.Choice { return slices.Clone(g.reach().given) }

// next: a call of that name is counted; the choice that is given to it, a
// zero one if there is none.
func (d *door) next(call string) api.Choice {
	if d.Proc == nil {
		return api.Choice{Errno: api.EFAULT}
	}
	d.counts[call]++
	c, ok := d.plan[moment{call, d.counts[call]}]
	if ok {
		d.given = append(d.given, c)
	}
	return c
}

// run: the call itself, unless the choice lets it fail.
func run[T any](c api.Choice, own func() (T, api.Errno)) (T, api.Errno) {
	if c.Errno != api.OK {
		var none T
		return none, c.Errno
	}
	return own()
}

// runBare: likewise, if it answers nothing but an error.
func runBare(c api.Choice, own func() api.Errno) api.Errno {
	_, e := run(c, func() (struct{}, api.Errno) { return struct{}{}, own() })
	return e
}

// most: how many bytes of n a choice lets through.
func most(c api.Choice, n int) int {
	if c.Short > 0 {
		return min(n, c.Short)
	}
	return n
}
