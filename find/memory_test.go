package find_test

import (
	"fmt"
	"slices"
	"strings"
	"testing"

	"tinsel/api"
	"tinsel/find"
)

// room: a list with other words in the room behind its end.
func room[T any](behind T, l ...T) []T {
	r := append(slices.Clone(l), behind, behind, behind)
	return r[:len(l)]
}

// R3: arguments stay as they were, and may be written over; so may what was told.
func TestArgumentsAndAnswersAreApart(t *testing.T) {
	const args = "r s -newer a -newer b -exec x {} ; -o ( -name *.c -print , -print0 ) -o -newer c"
	given := room("behind", split(args)...)
	roots, x, e := find.Parse(given)
	if e != api.OK {
		t.Fatal(e)
	}
	agree(t, "the arguments", strings.Join(given[:len(given)+3], " "), args+" behind behind behind")
	all := func() string {
		a, b, c := x.Depths()
		times := room(int64(77), 5, 6)
		x.Set(times)
		if !slices.Equal(times[:5], []int64{5, 6, 77, 77, 77}) {
			t.Errorf("%v", times[:5])
		}
		clear(times[:5])
		v := file("/q/w.c")
		v.Stat.Mtime = 6
		statuses := room(9, 1)
		f := x.Try(v, 0, statuses)
		if !slices.Equal(statuses[:4], []int{1, 9, 9, 9}) {
			t.Errorf("%v", statuses[:4])
		}
		return fmt.Sprint(x, x.Newer(), a, b, c, says(f))
	}
	was := all()
	for i := range given[:len(given)+3] {
		given[:len(given)+3][i] = "-bad"
	}
	agree(t, "behind the call", all(), was)
	agree(t, "the roots", fmt.Sprintf("%q", roots), `["r" "s"]`)
	for _, l := range [][]string{roots, x.Newer(), x.Newer()} {
		for i := range l[:cap(l)] {
			l[:cap(l)][i] = "changed"
		}
	}
	agree(t, "roots and files written over", all(), was)
}

// R3: what a Try told may be written over, its room too.
func TestFoundIsNew(t *testing.T) {
	x := of(t, "-print -ls -exec a {} {} ; -exec b ; -exec c {} d ;")
	statuses := []int{0, 0, 0}
	was := says(x.Try(file("/p"), 0, statuses))
	f := x.Try(file("/p"), 0, statuses)
	g := x.Try(file("/p"), 0, statuses)
	for i := range f.Out[:cap(f.Out)] {
		f.Out[:cap(f.Out)][i] = '#'
	}
	for _, r := range f.Run {
		_ = append(r, "more", "more", "more")
		for i := range r[:cap(r)] {
			r[:cap(r)][i] = "#"
			agree(t, "another", fmt.Sprintf("%q", g.Run[0][0]), `"a"`)
		}
	}
	agree(t, "the others", says(g), was)
	agree(t, "again", says(x.Try(file("/p"), 0, statuses)), was)
	h := x.Try(file("/p"), 0, statuses)
	first := h.Run[0]
	_ = append(first, "#", "#")
	agree(t, "lists of one answer", fmt.Sprintf("%q", h.Run), `[["a" "/p" "/p"] ["b"] ["c" "/p" "d"]]`)
}

// R3: nil and empty lists are the same.
func TestNilAndEmpty(t *testing.T) {
	for _, l := range [][]int{nil, {}} {
		agree(t, "statuses", says(of(t, "-exec a ;").Try(file("p"), 0, l)), `false run ["a"]`)
	}
	if f := of(t, "-false").Try(file("p"), 0, nil); len(f.Out)+len(f.Run) != 0 {
		t.Errorf("%+v", f)
	}
}
