package regex

import "tinsel/api"

// follow goes on with a way at the place of the text where a finder stands, up to the next atoms that take a byte, in the order of preference. owes: the way is in a round that may not take nothing, and has not taken anything yet. (Of rounds in one another the innermost one alone counts: the byte that it takes is taken in the others, too.)
type follow func(f *finder, owes bool)

// atom is where a way waits for a byte of a set.
type atom struct {
	set  *byteSet
	next follow
}

// planner turns a tree into closures. Each round that a number asks for, or allows, is a copy of its own, so that a place in the pattern is all that there is to know of a way.
type planner struct {
	atoms []atom
	joins int
}

// plan: the Regex of a tree.
func plan(x node, groups int) *Regex {
	var p planner
	end := p.joined(func(f *finder, owes bool) { f.accept() })
	first := p.build(x, end)
	return &Regex{groups: groups, first: first, atoms: p.atoms, joins: p.joins}
}

// build: what goes through a part, and on from there.
func (p *planner) build(x node, next follow) follow {
	switch x := x.(type) {
	case single:
		return p.await(x.set, next)
	case edge:
		return atEdge(x.end, next)
	case group:
		return opened(x.number, p.build(x.inner, closed(x.number, next)))
	case row:
		for i := len(x) - 1; i >= 0; i-- {
			next = p.build(x[i], next)
		}
		return next
	case choice:
		return p.choose(x, next)
	case repeat:
		return p.repeated(x.merged(), next)
	}
	return next
}

// joined: next, for ways that come there from several sides: of those that come at one place of the text, and owe as much, the most preferred one goes on, as the same is open to all of them. One that owes is not held against one that does not, even if that one came first: it may be the same way, a round further.
func (p *planner) joined(next follow) follow {
	join := p.joins
	p.joins++
	return func(f *finder, owes bool) {
		if f.leads(join, owes) {
			next(f, owes)
		}
	}
}

// await: the way waits for a byte of a set.
func (p *planner) await(set *byteSet, next follow) follow {
	i := len(p.atoms)
	p.atoms = append(p.atoms, atom{set, next})
	return func(f *finder, owes bool) { f.wait(i) }
}

// atEdge: only at the beginning of the text, or at its end.
func atEdge(end bool, next follow) follow {
	return func(f *finder, owes bool) {
		if !end && f.at == 0 || end && f.at == len(f.text) {
			next(f, owes)
		}
	}
}

// opened: a group begins; when all ways from here on have been followed, it is as it was, for those that part from them further ahead.
func opened(number int, next follow) follow {
	return func(f *finder, owes bool) {
		was := f.spans[number]
		f.spans[number].Lo = f.at
		next(f, owes)
		f.spans[number] = was
	}
}

// closed: a group ends. What it was is put back where it began.
func closed(number int, next follow) follow {
	return func(f *finder, owes bool) {
		f.spans[number].Hi = f.at
		next(f, owes)
	}
}

// choose: one branch after the other. An empty one behind another empty one would change nothing, and patterns can have thousands of these.
func (p *planner) choose(list choice, next follow) follow {
	if len(list) == 1 {
		return p.build(list[0], next)
	}
	next = p.joined(next)
	var branches []follow
	empty := false
	for _, x := range list {
		if len(x) == 0 && empty {
			continue
		}
		empty = empty || len(x) == 0
		branches = append(branches, p.build(x, next))
	}
	return inTurn(branches)
}

// inTurn: several ways on, the preferred ones first.
func inTurn(list []follow) follow {
	return func(f *finder, owes bool) {
		for _, next := range list {
			next(f, owes)
		}
	}
}

// repeated: the rounds that must be, then those that may be.
func (p *planner) repeated(x repeat, next follow) follow {
	if x.most == 0 {
		return next
	}
	next = p.joined(next)
	must := x.least
	if x.most == endless {
		next = p.loop(x, next)
		must = max(must-1, 0)
	} else {
		end := next
		for range x.most - x.least {
			next = p.option(x, next, end)
		}
	}
	for range must {
		next = begun(x, p.build(x.inner, next))
	}
	return next
}

// option: one more round and what comes behind it, then the end of the rounds.
func (p *planner) option(x repeat, next, end follow) follow {
	round := p.mayBe(x, next)
	return func(f *finder, owes bool) {
		round(f, owes)
		end(f, owes)
	}
}

// mayBe: a round that is not asked for: a way that takes nothing there is none.
func (p *planner) mayBe(x repeat, next follow) follow {
	round := begun(x, p.build(x.inner, func(f *finder, owes bool) {
		if !owes {
			next(f, false)
		}
	}))
	return func(f *finder, owes bool) { round(f, true) }
}

// loop: any number of rounds, but at least one, if the repetition asks for any.
//
// That one may take nothing. But if a round follows it, it is as if it had not been: the groups inside begin that round anew. So rounds that take nothing are followed behind all others, and alone; a copy of the part that takes bytes would double it at each of several repetitions in one another.
func (p *planner) loop(x repeat, end follow) follow {
	var again follow
	round := p.mayBe(x, func(f *finder, owes bool) { again(f, owes) })
	again = p.joined(inTurn([]follow{round, end}))
	if x.least == 0 {
		return again
	}
	if blank := p.blank(x, end); blank != nil {
		return inTurn([]follow{round, blank})
	}
	return round
}

// blank: what goes through a part without taking a byte, and on from there; nil: there is no such way.
func (p *planner) blank(x node, next follow) follow {
	switch x := x.(type) {
	case edge:
		return atEdge(x.end, next)
	case group:
		if inner := p.blank(x.inner, closed(x.number, next)); inner != nil {
			return opened(x.number, inner)
		}
	case row:
		for i := len(x) - 1; i >= 0 && next != nil; i-- {
			next = p.blank(x[i], next)
		}
		return next
	case choice:
		return p.blankChoice(x, next)
	case repeat:
		x = x.merged()
		if x.least == 0 {
			return next
		}
		if inner := p.blank(x.inner, next); inner != nil {
			return begun(x, inner) // one round tells as much as several at the same place
		}
	}
	return nil
}

// blankChoice: likewise, of branches.
func (p *planner) blankChoice(list choice, next follow) follow {
	next = p.joined(next)
	var branches []follow
	for _, x := range list {
		if b := p.blank(x, next); b != nil {
			branches = append(branches, b)
		}
		if len(x) == 0 {
			break // no branch behind an empty one comes first any more
		}
	}
	if branches == nil {
		return nil
	}
	return inTurn(branches)
}

// begun: a round begins, and the groups inside it have no span, till all ways from here on have been followed.
func begun(x repeat, round follow) follow {
	if x.from == x.to {
		return round
	}
	return func(f *finder, owes bool) {
		var was [maxGroups]api.Span
		inside := f.spans[x.from+1 : x.to+1]
		copy(was[:], inside)
		clearSpans(inside)
		round(f, owes)
		copy(inside, was[:])
	}
}
