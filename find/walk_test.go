package find_test

import (
	"fmt"
	"math"
	"testing"

	"tinsel/api"
)

// depths: what an expression says of the walk.
func depths(t *testing.T, args string) string {
	t.Helper()
	least, most, behind := of(t, args).Depths()
	return fmt.Sprint(least, " ", most, " ", behind)
}

// P20.1: the least depth, the greatest, and whether directories are told behind what lies in them.
func TestDepths(t *testing.T) {
	for _, v := range [][2]string{
		{"", "0 -1 false"}, {"a", "0 -1 false"}, {"-true", "0 -1 false"}, {"-print -prune -quit", "0 -1 false"},
		{"-mindepth 1", "1 -1 false"}, {"-maxdepth 1", "0 1 false"}, {"-mindepth 0", "0 -1 false"}, {"-maxdepth 0", "0 0 false"},
		{"-mindepth 1 -maxdepth 3", "1 3 false"}, {"-maxdepth 3 -mindepth 1", "1 3 false"}, {"-mindepth 3 -maxdepth 1", "3 1 false"}, {"-maxdepth 1 -mindepth 3", "3 1 false"},
		{"-mindepth 1 -mindepth 2", "2 -1 false"}, {"-mindepth 2 -mindepth 1", "1 -1 false"}, {"-maxdepth 1 -maxdepth 2", "0 2 false"}, {"-maxdepth 2 -maxdepth 1", "0 1 false"},
		{"-maxdepth 2 -mindepth 1 -maxdepth 0 -mindepth 0", "0 0 false"}, {"-mindepth 007", "7 -1 false"}, {"-maxdepth 00", "0 0 false"},
		{"-mindepth 999999999999999999", "999999999999999999 -1 false"}, {"-maxdepth 0999999999999999999", "0 999999999999999999 false"},
		{"-depth", "0 -1 true"}, {"-delete", "0 -1 true"}, {"-depth -delete", "0 -1 true"}, {"-maxdepth 2 -delete", "0 2 true"}, {"-delete -mindepth 2", "2 -1 true"}, {"-depth -depth", "0 -1 true"},
		{"-depth -prune", "0 -1 true"}, {"-prune -depth", "0 -1 true"}, {"a b -depth -mindepth 1", "1 -1 true"},
		{"! -mindepth 1", "1 -1 false"}, {"-false -a -maxdepth 1", "0 1 false"}, {"-true -o -depth", "0 -1 true"}, {"-quit , ( ! -delete )", "0 -1 true"}, {"( -maxdepth 1 -o -maxdepth 2 ) -maxdepth 3", "0 3 false"}, {"-maxdepth 3 ( -maxdepth 1 , -maxdepth 2 )", "0 2 false"},
		{"-name -depth", "0 -1 false"}, {"-newer -delete", "0 -1 false"}, {"-exec -depth -maxdepth 1 ;", "0 -1 false"}, {"-name -maxdepth -mindepth 1", "1 -1 false"},
	} {
		agree(t, v[0], depths(t, v[0]), v[1])
	}
}

// P20.1: a depth is a number from 0 on.
func TestNoDepths(t *testing.T) {
	for _, name := range split("-mindepth -maxdepth") {
		refuseAll(t, name, name+" ", name+" -1", name+" +1", name+" a", name+" 1a", name+" -", name+" +", name+" 1.0", name+" 0x1", name+" -print", name+" 1000000000000000000", name+" 99999999999999999999999", name+" -999999999999999999", name+" 1k", name+" )", "( "+name+" )", name+" 1 2", name+" 1 "+name)
		refuse(t, []string{name, " 1"}, []string{name, "1 "}, []string{name, "1\n"}, []string{name, "\x00"}, []string{name, "1\xff"})
	}
	refuseAll(t, "-depth 1", "-depth -1", "-delete 1", "-prune 1")
}

// kinds: those of visits, and numbers that are none.
var kinds = []int{math.MinInt, -1, 0, api.VisitFile, api.VisitPre, api.VisitPost, api.VisitErr, api.VisitCycle, 6, math.MaxInt}

// P20.2: files and directories are reckoned, the latter ahead of what lies in them, or behind it.
func TestKindsOfVisits(t *testing.T) {
	for _, v := range []struct {
		args   string
		behind bool
	}{{"-print", false}, {"-print -depth", true}, {"-print -delete", true}, {"-print -o -delete", true}, {"-print -prune", false}, {"-print -maxdepth 0", false}, {"-print , -depth", true}, {"! -print", false}, {"-print -quit", false}} {
		x := of(t, v.args)
		for _, kind := range kinds {
			for _, e := range []api.Errno{api.OK, api.EACCES} {
				visit := file("a")
				visit.Kind, visit.Errno = kind, e
				told := kind == api.VisitFile || kind == api.VisitPre && !v.behind || kind == api.VisitPost && v.behind
				got := says(x.Try(visit, 0, []int{0}))
				if nothing := got == "false"; nothing == told {
					t.Errorf("%s, kind %d: %s", v.args, kind, got)
				}
			}
		}
	}
}

// P20.2: what each kind of visit holds is not looked at: a file may have a directory's mode.
func TestKindsAndModes(t *testing.T) {
	for _, mode := range []api.Mode{api.TypeDir, api.TypeReg, api.TypeLink, 0, -1} {
		v := api.Visit{Kind: api.VisitFile, Path: "a", Stat: api.Stat{Mode: mode}}
		agree(t, "a file", found(t, "-print", v), `true out "a\n"`)
		agree(t, "a file, -depth", found(t, "-depth -print", v), `true out "a\n"`)
		v.Kind = api.VisitErr
		agree(t, "an error", found(t, "-print", v), "false")
	}
}

// P20.2: a visit is reckoned from the least depth to the greatest one.
func TestDepthsOfVisits(t *testing.T) {
	const far = 999999999999999999
	for _, v := range []struct {
		args        string
		least, most int
	}{
		{"-print", 0, math.MaxInt}, {"-mindepth 0 -print", 0, math.MaxInt}, {"-mindepth 1 -print", 1, math.MaxInt}, {"-mindepth 2 -print", 2, math.MaxInt},
		{"-maxdepth 0 -print", 0, 0}, {"-maxdepth 1 -print", 0, 1}, {"-maxdepth 2 -print", 0, 2}, {"-mindepth 1 -maxdepth 1 -print", 1, 1}, {"-maxdepth 2 -mindepth 1 -print", 1, 2},
		{"-mindepth 2 -maxdepth 1 -print", 2, 1}, {"-print -mindepth 1", 1, math.MaxInt}, {"-print -o -maxdepth 1", 0, 1}, {"-print , ! -maxdepth 1", 0, 1},
		{"-mindepth 999999999999999999 -print", far, math.MaxInt}, {"-maxdepth 999999999999999999 -print", 0, far}, {"-mindepth 3 -print -mindepth 1", 1, math.MaxInt}, {"-maxdepth 3 -print -maxdepth 1", 0, 1},
		{"-depth -mindepth 1 -maxdepth 2 -print", 1, 2},
	} {
		x := of(t, v.args)
		for _, depth := range []int{math.MinInt, -1, 0, 1, 2, 3, far - 1, far, far + 1, math.MaxInt} {
			visit := file("a")
			visit.Depth = depth
			got := len(x.Try(visit, 0, nil).Out) > 0
			if want := depth >= v.least && depth <= v.most; got != want {
				t.Errorf("%s, depth %d: %v", v.args, depth, got)
			}
		}
	}
}

// P20.2: of a visit that is not reckoned nothing is told, whatever stands in the expression.
func TestNothingOfOthers(t *testing.T) {
	for _, args := range []string{"-true", "! -false", "-print , -quit", "-prune -print", "-exec a ; -o -print", "! -exec a ;"} {
		x := of(t, "-mindepth 1 -maxdepth 2 -a ( "+args+" )")
		for _, depth := range []int{0, 3} {
			v := file("a")
			v.Depth = depth
			agree(t, args, says(x.Try(v, 0, []int{0, 0})), "false")
		}
		v := file("a")
		v.Depth, v.Kind = 1, api.VisitCycle
		agree(t, args, says(x.Try(v, 0, []int{0, 0})), "false")
	}
}

// P20.1, P20.2: -depth, -mindepth and -maxdepth are true where they are reckoned.
func TestOptionsAreTrue(t *testing.T) {
	for _, s := range []string{"-depth", "-mindepth 0", "-maxdepth 0", "-maxdepth 5", "-mindepth 0 -maxdepth 0 -depth"} {
		agree(t, s, found(t, s, file("a")), `true out "a\n"`)
		agree(t, "! "+s, found(t, "! ( "+s+" )", file("a")), "false")
		agree(t, s+" -o -print", found(t, s+" -o -print", file("a")), "true")
	}
}
