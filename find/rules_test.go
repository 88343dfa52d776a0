package find_test

import (
	"fmt"
	"math"
	"strings"
	"testing"

	"tinsel/api"
	"tinsel/find"
)

// The chapter's examples.
func TestExamples(t *testing.T) {
	agree(t, "a name or a type", rooted("a", "-name", "*.c", "-o", "-type", "d"), `["a"] ( ( -name *.c -o -type d ) -a -print ) 0`)
	agree(t, "nothing", rooted(), `["."] ( -true -a -print ) 0`)
	refuseAll(t, "-name", "( -print")
	v := file("/a")
	v.Stat.Size = 1025
	holds(t, true, v, 0, "-size +1k")
	agree(t, "-exec", found(t, "-exec echo {} ;", v, 0), `true run ["echo" "/a"]`)
	agree(t, "-exec without a status", found(t, "-exec echo {} ;", v), `false run ["echo" "/a"]`)
	agree(t, "-delete", depths(t, "-maxdepth 2 -delete"), "0 2 true")
}

// R5: an expression that no call made.
func TestExprsThatNoCallMade(t *testing.T) {
	for _, x := range []*find.Expr{nil, {}, new(find.Expr)} {
		for range 2 {
			least, most, behind := x.Depths()
			agree(t, "depths", fmt.Sprint(least, most, behind), "0 -1 false")
			agree(t, "String", x.String(), "")
			if x.Newer() != nil {
				t.Errorf("Newer: %q", x.Newer())
			}
			for _, kind := range kinds {
				v := file("a")
				v.Kind = kind
				agree(t, "Try", fmt.Sprintf("%+v", x.Try(v, 5, []int{0, 0})), fmt.Sprintf("%+v", api.Found{}))
			}
			x.Set([]int64{1, 2})
			x.Set(nil)
		}
	}
	y := new(find.Expr)
	y.Set([]int64{1, 2})
	agree(t, "as it was", fmt.Sprintf("%+v", *y), fmt.Sprintf("%+v", find.Expr{}))
}

// R2: of several that are wrong each is the same error, with nothing beside it.
func TestErrorsAlone(t *testing.T) {
	refuseAll(t, "a b -name", "a -x -y", "-type x -perm q", "-size a ( -o", ") ( -links", "a -maxdepth -1 )", "-print -exec ;", "! -newer", "-newer a -newer", "-delete -x", "-depth -mindepth 1 -bad")
	refuse(t, append(split(often(api.MaxWords, "a")), "-bad"), split("-bad "+often(api.MaxWords, "a")))
}

// R1: every call ends, whatever it is given.
func TestOddWords(t *testing.T) {
	odd := []string{"", "-", "--", "(", ")", "!", ",", ";", "{}", "+", "/", "-/", "\x00", "\xff", "é", "-\x00", "-exec", "-name", "-perm", "-size", "-type", "-newer", "-maxdepth", "-mtime", "-links", "-print", "-quit", "-depth"}
	long := []string{strings.Repeat("9", 100000), strings.Repeat("*[", 50000), strings.Repeat("u+r,", 30000) + "u+r", "-" + strings.Repeat("-", 100000), strings.Repeat("(", 100000)}
	visits := []api.Visit{{}, file(""), file("\x00/\xff"), {Kind: api.VisitFile, Depth: math.MaxInt, Path: strings.Repeat("/", 70000), Stat: api.Stat{Ino: math.MinInt, Links: math.MaxInt, Uid: -1, Gid: -1, Size: math.MaxInt, Mode: -1, Atime: math.MinInt64, Mtime: math.MaxInt64, Ctime: -1}}, {Kind: -1, Errno: -1}}
	count := 0
	see := func(l []string) {
		roots, x, e := find.Parse(l)
		if e != api.OK {
			if e != api.EUSAGE || x != nil || roots != nil {
				t.Errorf("%q: %q, %v, %d", l, roots, x, int(e))
			}
			return
		}
		count++
		x.Set([]int64{math.MinInt64})
		for _, v := range visits {
			x.Try(v, math.MinInt64, []int{math.MinInt})
			x.Try(v, math.MaxInt64, nil)
		}
		if x.String() == "" || len(roots) == 0 {
			t.Errorf("%q: %q, %s", l, roots, x)
		}
	}
	everyList(3, odd, see)
	everyList(2, append(long, odd...), see)
	if count < 1000 {
		t.Errorf("only %d expressions", count)
	}
}

// Long words, and many of them, are gone through once.
func TestMuchToDo(t *testing.T) {
	long := strings.Repeat("{}", 500000)
	f := parsed(t, "-exec", long, ";").Try(file("ab"), 0, []int{0})
	agree(t, "many places", f.Run[0][0], strings.Repeat("ab", 500000))
	big := file(strings.Repeat("d/", 10000) + "f")
	out := of(t, often(1000, "-print")).Try(big, 0, nil).Out
	if len(out) != 1000*(len(big.Path)+1) {
		t.Errorf("%d bytes", len(out))
	}
	x := of(t, often(1000, "-size 1 -o")+" "+often(1000, "-true"))
	for range 2000 {
		if !x.Try(file("f"), 0, nil).True {
			t.Fatal("not so")
		}
	}
}
