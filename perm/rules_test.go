package perm_test

import (
	"fmt"
	"math"
	"slices"
	"strings"
	"sync"
	"testing"

	"tinsel/api"
	"tinsel/perm"
)

// picture: what all calls say of some texts, modes and numbers.
func picture(s string, m api.Mode, a, b int, groups []int) string {
	c := api.Cred{Uid: a, Gid: b, Groups: groups}
	p, e := perm.Parse(s)
	n, f := perm.Change(s, m, a)
	return fmt.Sprintf("%s %o %v %s %o %v %v %v %v", perm.Text(m), int(p), e, perm.Octal(m), int(n), f,
		perm.Access(m, b, a, c, b), perm.Member(c, a), perm.Remove(api.Stat{Mode: m, Uid: b}, api.Stat{Mode: m, Uid: b}, c))
}

// oddNumbers: at their ends, and where bits begin and end.
var oddNumbers = []int{0, 1, -1, 7, 8, -8, 0o777, 0o1000, 0o7777, 0o10000, 0o170000, 0o177777, 0o200000, -0o200000, math.MaxInt32, math.MinInt32, 1 << 32, math.MaxInt, math.MinInt}

// oddTexts: some that say a mode, more that do not.
func oddTexts() []string {
	l := []string{"", "\x00", "\xff", "\xff\xff\xff\xff\xff\xff\xff\xff\xff\xff", "\ufffd", "é", "７５５", "-rw-r--r--", "?rw-r--r--", "----------", "u=rw,go=r", "755", "=", "+X", "a=u"}
	l = append(l, everyText("u+,7\x80", 3)...)
	for _, s := range []string{"u", "+", ",", "7", "+r", "u+r,", "-", "\xf0\x9f", "rwx"} {
		l = append(l, strings.Repeat(s, 1000))
	}
	return l
}

// R1, R4: no call panics, each ends, and says the same again.
func TestOddArguments(t *testing.T) {
	for i, s := range oddTexts() {
		for j, m := range oddNumbers {
			a, b := oddNumbers[(i+j)%len(oddNumbers)], oddNumbers[(i+3*j)%len(oddNumbers)]
			is(t, "again", picture(s, api.Mode(m), a, b, oddNumbers), picture(s, api.Mode(m), a, b, oddNumbers))
			is(t, "no groups", picture(s, api.Mode(m), a, b, nil), picture(s, api.Mode(m), a, b, []int{}))
		}
	}
}

// R1: texts of many letters are gone through in a short time.
func TestGreatTexts(t *testing.T) {
	const n = 1000000
	makes(t, strings.Repeat("u", n)+"+"+strings.Repeat("r", n), 0o100000, 0, 0o100400)
	makes(t, strings.Repeat("u+r-w,", n)+"g=u", 0o100200, 0, 0o100440)
	makes(t, strings.Repeat("=", n), 0o107777, 0, 0o100000)
	noChange(t, strings.Repeat("0", n))
	noChange(t, strings.Repeat("a=", n)+"q")
	noMode(t, strings.Repeat("-", n))
}

// R2: beside an error stands nothing; what went well ahead of what is wrong is not told.
func TestNothingBesideAnError(t *testing.T) {
	for _, text := range []string{"u+x,q", "a=rwx,", "777x", "07777", "u=rwx,g=uo"} {
		noChange(t, text)
	}
	for _, s := range []string{"drwxrwxrwX", "lrwxrwxrw?", "prwxrwxrwxx", "?rwxrwxrwx"} {
		noMode(t, s)
	}
}

// R3: what is handed in is not changed, nor what lies behind its end.
func TestHandedInStays(t *testing.T) {
	room := []int{9, 3, 7, 3, 1, 70, 0}
	was := slices.Clone(room)
	c := api.Cred{Uid: 5, Gid: 5, Groups: room[:4]}
	yes(t, "Member", perm.Member(c, 7), true)
	yes(t, "Member behind the end", perm.Member(c, 70), false)
	yes(t, "Access", perm.Access(0o100040, 1, 3, c, 4), true)
	yes(t, "Access behind the end", perm.Access(0o100040, 1, 70, c, 4), false)
	yes(t, "Remove", perm.Remove(api.Stat{Mode: api.Sticky, Uid: 9}, api.Stat{Uid: 3}, c), false)
	if !slices.Equal(room, was) {
		t.Errorf("what was handed in: %v, it was %v", room, was)
	}
}

// R3: a list that is changed behind a call counts for the next one.
func TestNothingIsKept(t *testing.T) {
	c := api.Cred{Uid: 5, Gid: 5, Groups: []int{6}}
	yes(t, "Member", perm.Member(c, 6), true)
	c.Groups[0] = 7
	yes(t, "Member of a list that has changed", perm.Member(c, 6), false)
	yes(t, "Member of a list that has changed", perm.Member(c, 7), true)
	noChange(t, "u+x,q")
	makes(t, "g+w", 0o100000, 0, 0o100020) // nothing is left of the text ahead
	makes(t, "+w", 0o100000, 0o022, 0o100200)
}

// R4: the same answers, whoever else asks at the same time.
func TestManyAtOnce(t *testing.T) {
	texts := []string{"u=rw,go=r", "u+x,q", "-rwsr-xr-x", "755", "=", "a+X,o=u"}
	want := make([]string, len(texts))
	for i, s := range texts {
		want[i] = picture(s, 0o040750, i, 3, []int{3, 4})
	}
	got := make([]string, 8*len(texts))
	var all sync.WaitGroup
	for i := range got {
		all.Go(func() {
			k := i % len(texts)
			got[i] = picture(texts[k], 0o040750, k, 3, []int{3, 4})
		})
	}
	all.Wait()
	for i := range got {
		is(t, "at once", got[i], want[i%len(texts)])
	}
}
