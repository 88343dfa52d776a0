package find_test

import (
	"fmt"
	"math"
	"testing"

	"tinsel/api"
)

// modified: a file of that Mtime. (The other times say nothing.)
func modified(at int64) api.Visit {
	return with(api.Stat{Mode: api.TypeReg, Mtime: at, Atime: -at, Ctime: 5})
}

// P20.1: the file of each -newer, in the order of the arguments.
func TestNewer(t *testing.T) {
	for _, v := range []struct {
		args  string
		files []string
	}{
		{"", nil}, {"-true", nil}, {"-newer a", []string{"a"}}, {"-newer a -newer b", []string{"a", "b"}}, {"-newer b -newer a", []string{"b", "a"}},
		{"-newer a -newer a", []string{"a", "a"}}, {"-newer a -o -newer b , -newer c", []string{"a", "b", "c"}}, {"( -newer c , -newer a ) -o ! ( -newer b )", []string{"c", "a", "b"}},
		{"-false -newer a -quit -newer b", []string{"a", "b"}}, {"-newer ", []string{""}}, {"-newer -newer -newer /x/y", []string{"-newer", "/x/y"}},
		{"-name -newer -newer a", []string{"a"}}, {"-exec -newer a ;", nil}, {"-newer a -print -newer b", []string{"a", "b"}},
	} {
		x := of(t, v.args)
		agree(t, v.args, fmt.Sprintf("%q", x.Newer()), fmt.Sprintf("%q", v.files))
		x.Set([]int64{1, 2, 3, 4})
		agree(t, v.args+", set", fmt.Sprintf("%q", x.Newer()), fmt.Sprintf("%q", v.files))
	}
}

// P20.1, P20.2: true, if the time of the change is above the one that was set.
func TestNewerThan(t *testing.T) {
	times := []int64{math.MinInt64, math.MinInt64 + 1, -1, 0, 1, 99, 100, 101, math.MaxInt64 - 1, math.MaxInt64}
	x := of(t, "-newer f")
	for _, set := range times {
		x.Set([]int64{set})
		for _, at := range times {
			for _, now := range []int64{0, 100, math.MinInt64} {
				if got := x.Try(modified(at), now, nil).True; got != (at > set) {
					t.Errorf("%d newer than %d: %v", at, set, got)
				}
			}
		}
	}
}

// P20.1, P20.2: a file that Set gave no time is older than none; times that no place takes say nothing.
func TestPlacesOfTimes(t *testing.T) {
	const args = "-newer a -exec A ; , -newer b -exec B ; , -newer c -exec C ; , -true"
	x := of(t, args)
	has := func(of string, want string) {
		t.Helper()
		got := ""
		for _, r := range x.Try(modified(100), 0, nil).Run {
			got += r[0]
		}
		agree(t, of, got, want)
	}
	has("ahead of Set", "")
	x.Set(nil)
	has("nil", "")
	x.Set([]int64{})
	has("an empty list", "")
	x.Set([]int64{99})
	has("fewer", "A")
	x.Set([]int64{99, 100, 98})
	has("as many", "AC")
	x.Set([]int64{100, 5, 101})
	has("twice", "B")
	x.Set([]int64{1, 2, 3, 4, 5})
	has("more", "ABC")
	x.Set([]int64{100, 100, 100, 1})
	has("the last one counts", "")
	y := of(t, "-true")
	y.Set([]int64{1})
	agree(t, "no place", says(y.Try(modified(100), 0, nil)), `true out "/d/f\n"`)
}

// P20.1: the same file named twice has two places.
func TestSameFileTwice(t *testing.T) {
	x := of(t, "-newer a -newer a")
	v := modified(10)
	for _, s := range []struct {
		set  []int64
		want bool
	}{{[]int64{9}, false}, {[]int64{9, 9}, true}, {[]int64{9, 10}, false}, {[]int64{10, 9}, false}, {[]int64{9, 8, 100}, true}} {
		x.Set(s.set)
		if got := x.Try(v, 0, nil).True; got != s.want {
			t.Errorf("%v: %v", s.set, got)
		}
	}
	agree(t, "the files", fmt.Sprintf("%q", x.Newer()), `["a" "a"]`)
}

// P20.1: Set changes its own expression alone, and no other call's answer of it.
func TestSetAlone(t *testing.T) {
	x, y := of(t, "-newer a -mindepth 1"), of(t, "-newer a -mindepth 1")
	text := x.String()
	x.Set([]int64{-5})
	v := modified(0)
	v.Depth = 1
	agree(t, "this one", says(x.Try(v, 0, nil)), `true out "/d/f\n"`)
	agree(t, "the other one", says(y.Try(v, 0, nil)), "false")
	agree(t, "String", x.String(), text)
	least, most, behind := x.Depths()
	agree(t, "Depths", fmt.Sprint(least, most, behind), "1 -1 false")
}
