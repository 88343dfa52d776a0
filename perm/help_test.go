package perm_test

import (
	"fmt"
	"testing"

	"tinsel/api"
	"tinsel/perm"
)

// The calls, with the signatures that the chapter lists.
var (
	_ func(api.Mode) string                                     = perm.Text
	_ func(string) (api.Mode, api.Errno)                        = perm.Parse
	_ func(api.Mode) string                                     = perm.Octal
	_ func(string, api.Mode, int) (api.Mode, api.Errno)         = perm.Change
	_ func(api.Mode, int, int, api.Cred, int) bool              = perm.Access
	_ func(api.Cred, int) bool                                  = perm.Member
	_ func(dir api.Stat, file api.Stat, somebody api.Cred) bool = perm.Remove
)

// brief: a text quoted, or how it begins and how long it is.
func brief(s string) string {
	if len(s) <= 300 {
		return fmt.Sprintf("%q", s)
	}
	return fmt.Sprintf("%q.. (%d bytes)", s[:300], len(s))
}

// is: a text that a call answered.
func is(t *testing.T, what, got, want string) {
	t.Helper()
	if got != want {
		t.Errorf("%s: %s, want %s", brief(what), brief(got), brief(want))
	}
}

// yes: what a call answered, yes or no.
func yes(t *testing.T, what string, got, want bool) {
	t.Helper()
	if got != want {
		t.Errorf("%s: %v, want %v", what, got, want)
	}
}

// parses: Parse answers this mode.
func parses(t *testing.T, s string, want api.Mode) {
	t.Helper()
	if m, e := perm.Parse(s); m != want || e != api.OK {
		t.Errorf("Parse(%s): %#o, %v, want %#o", brief(s), int(m), e, int(want))
	}
}

// noMode: Parse answers EINVAL, and beside it nothing.
func noMode(t *testing.T, s string) {
	t.Helper()
	if m, e := perm.Parse(s); m != 0 || e != api.EINVAL {
		t.Errorf("Parse(%s): %#o, %v, want none", brief(s), int(m), e)
	}
}

// makes: Change answers this mode.
func makes(t *testing.T, text string, old api.Mode, umask int, want api.Mode) {
	t.Helper()
	if m, e := perm.Change(text, old, umask); m != want || e != api.OK {
		t.Errorf("Change(%s, %#o, %#o): %#o, %v, want %#o", brief(text), int(old), umask, int(m), e, int(want))
	}
}

// noChange: Change answers EINVAL, and beside it nothing, whatever the mode.
func noChange(t *testing.T, text string) {
	t.Helper()
	for _, old := range []api.Mode{0, 0o100644, 0o047777, -1} {
		if m, e := perm.Change(text, old, 0o022); m != 0 || e != api.EINVAL {
			t.Errorf("Change(%s, %#o, 022): %#o, %v, want none", brief(text), int(old), int(m), e)
		}
	}
}

// may: Access, somebody's wants from 0 to 7, as a text of eight bytes y and n.
func may(t *testing.T, what string, m api.Mode, uid, gid int, c api.Cred, want string) {
	t.Helper()
	got := ""
	for w := range 8 {
		if perm.Access(m, uid, gid, c, w) {
			got += "y"
		} else {
			got += "n"
		}
	}
	if got != want {
		t.Errorf("%s: Access(%#o, %d, %d, %v, 0 to 7): %s, want %s", what, int(m), uid, gid, c, got, want)
	}
}

// everyText: the texts of at most n of these letters, the empty one first.
func everyText(letters string, n int) []string {
	all, last := []string{""}, []string{""}
	for range n {
		var next []string
		for _, s := range last {
			for _, c := range []byte(letters) {
				next = append(next, s+string([]byte{c}))
			}
		}
		all, last = append(all, next...), next
	}
	return all
}

// dice: numbers that look like thrown ones, the same in every run.
type dice uint64

// below: the next number, from 0 to n - 1.
func (d *dice) below(n int) int {
	*d = *d*6364136223846793005 + 1442695040888963407
	return int(uint64(*d) >> 33 % uint64(n))
}
