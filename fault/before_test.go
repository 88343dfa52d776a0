package fault_test

import (
	"fmt"
	"testing"

	"tinsel/api"
	"tinsel/fault"
)

// P8.4: a call that fails by a choice has done nothing: the file system, the
// descriptors, the places, the times and the holds are as they were.
func TestFailedCallDoesNothing(t *testing.T) {
	for _, call := range names {
		s := working(call)
		for _, e := range lawful[call] {
			c := fails(call, 1, e)
			p, g := busy(t), fault.New(busy(t), c)
			what := fmt.Sprintf("%s fails by %v", call, e)
			g.FS().Clock(999) // so that a time that is written down would show
			same(t, what, do(g, s), zeros(call, e))
			g.FS().Clock(50)
			same(t, what+": state", state(g.Proc()), state(p))
			given(t, g, c)
			same(t, what+": the next one", do(g, s), do(p, s))
			same(t, what+": behind the next one", state(g.Proc()), state(p))
			same(t, what+": places", used(g.Proc()), used(p))
			counted(t, g, 2, map[string]int{call: 2})
		}
	}
}

// P8.4: likewise, if all that is to be seen by use is looked at first.
func TestFailedCallMovesNoPlace(t *testing.T) {
	for _, call := range names {
		g := fault.New(busy(t), fails(call, 1, api.EIO))
		do(g, working(call))
		same(t, call+": places", used(g.Proc()), used(busy(t)))
	}
}

// The calls that the tests above let fail would have done something.
func TestWorkingCalls(t *testing.T) {
	for _, call := range names {
		p := busy(t)
		p.FS().Clock(999)
		got := do(p, working(call))
		p.FS().Clock(50)
		changed := state(p) != state(busy(t)) || used(p) != used(busy(t))
		if got == zeros(call, 0) && !changed && call != "access" || got[:1] != "0" {
			t.Errorf("%s: %s, and it changes nothing", call, brief(got))
		}
	}
}

// P8.4: a failed Close leaves the descriptor open, a failed Chdir the
// directory held, a failed Open no hold.
func TestFailedCallKeepsHolds(t *testing.T) {
	g := fault.New(busy(t), fails("close", 1, api.EIO), fails("chdir", 1, api.EACCES), fails("open", 1, api.EINTR), fails("dup2", 1, api.EIO))
	st, e := g.Stat("/f")
	good(t, "Stat", e)
	here := g.Cred().Cwd
	is(t, "Close", g.Close(file), api.EIO)
	is(t, "Chdir", g.Chdir("/"), api.EACCES)
	_, e = g.Open("/f", rd, 0)
	is(t, "Open", e, api.EINTR)
	_, e = g.Dup2(tape, file)
	is(t, "Dup2", e, api.EIO)
	same(t, "holds", []int{heldBy(g.FS(), st.Ino), heldBy(g.FS(), here)}, []int{2, 1})
	same(t, "Fds", g.Fds(), []int{0, 1, 2, 3, 4, 5})
	is(t, "Close", g.Close(file), api.OK)
	is(t, "Chdir", g.Chdir("/"), api.OK)
	same(t, "holds", []int{heldBy(g.FS(), st.Ino), heldBy(g.FS(), here)}, []int{1, 0})
	is(t, "Unlink", g.Unlink("/f"), api.OK)
	g.CloseAll()
	if _, e := g.FS().Info(st.Ino); e != api.ENOENT {
		t.Errorf("the file is still in use: %v", e)
	}
}

// P8.4: the choice is looked for ahead of the process: what the process would
// refuse fails by the choice, too.
func TestChoiceAheadOfRefusal(t *testing.T) {
	for _, call := range names {
		s := working(call)
		s.fd, s.path, s.n = shut, "no/no", -1
		c := fails(call, 1, api.EIO)
		p, g := busy(t), fault.New(busy(t), c)
		same(t, call, do(g, s), zeros(call, api.EIO))
		same(t, call+" again", do(g, s), do(p, s))
		given(t, g, c)
	}
}
