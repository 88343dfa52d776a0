package walk_test

import (
	"fmt"
	"math/rand"
	"slices"
	"strings"
	"testing"

	"tinsel/api"
	"tinsel/desc"
	"tinsel/fault"
	"tinsel/tree"
	"tinsel/walk"
)

// below: the paths of all that lies in a directory, by the file system's own
// entries, it itself among them.
func below(fs *tree.FS, ino int, path string) []string {
	l := list(path)
	entries, _ := fs.Entries(ino)
	for _, x := range entries {
		if x.Name == "." || x.Name == ".." {
			continue
		}
		l = append(l, below(fs, x.Ino, strings.TrimSuffix(path, "/")+"/"+x.Name)...)
	}
	return l
}

// inside: does a path lie in a directory?
func inside(dir, path string) bool {
	return path != dir && strings.HasPrefix(path, strings.TrimSuffix(dir, "/")+"/")
}

// P14.5: each path once, each directory ahead of (behind) what lies in it, and
// what lies in one directory stands together.
func once(t *testing.T, p *desc.Proc, flags int) {
	t.Helper()
	l := asked(t, walk.New(fault.New(p), flags, -1, "/"))
	pre, after := map[string]int{}, map[string]int{}
	var paths []string
	for i, v := range l {
		at := pre
		if v.Kind == api.VisitPost {
			at = after
		} else {
			paths = append(paths, v.Path)
		}
		if _, again := at[v.Path]; again {
			t.Errorf("flags %d: %s is told twice", flags, line(v))
		}
		at[v.Path] = i
	}
	want := below(p.FS(), 1, "/")
	slices.Sort(paths)
	slices.Sort(want)
	same(t, fmt.Sprint("flags ", flags, ": paths"), paths, want)
	for from, v := range l {
		if v.Kind != api.VisitPre {
			continue
		}
		n := 0
		for n+from+1 < len(l) && inside(v.Path, l[n+from+1].Path) {
			n++
		}
		for i, x := range l {
			if inside(v.Path, x.Path) != (from < i && i <= from+n) {
				t.Errorf("flags %d: %s stands apart from %s", flags, line(x), line(v))
			}
		}
		if flags&post != 0 {
			same(t, "behind "+v.Path, after[v.Path], from+n+1)
		}
	}
	same(t, "told behind", len(after), map[bool]int{true: kinds(l, api.VisitPre)}[flags&post != 0])
}

// kinds: how many steps are of a kind.
func kinds(l []api.Visit, kind int) int {
	n := 0
	for _, v := range l {
		if v.Kind == kind {
			n++
		}
	}
	return n
}

// P14.5 over trees of any kind.
func TestOnce(t *testing.T) {
	r := rand.New(rand.NewSource(5))
	for range 300 {
		p := wild(t, r)
		for _, flags := range []int{0, sorted, post, roots, post | sorted | roots} {
			once(t, p, flags)
		}
	}
}

// P14.6: each walk ends, is never deeper than there are directories, and tells
// a cycle just where one comes to a directory that one stands in.
func TestCyclesOnEachWay(t *testing.T) {
	r := rand.New(rand.NewSource(6))
	for range 500 {
		p := wild(t, r)
		dirs := 0
		for _, ino := range p.FS().Inodes() {
			if st, _ := p.FS().Info(ino); st.Mode&api.TypeMask == api.TypeDir {
				dirs++
			}
		}
		l := asked(t, walk.New(fault.New(p), logical, -1, "/"))
		at := map[string]int{} // inodes of the directories that were gone into
		told := map[string]int{}
		for _, v := range l {
			if v.Depth > dirs {
				t.Errorf("%s: %d directories", line(v), dirs)
			}
			if told[v.Path]++; v.Kind != api.VisitErr && told[v.Path] > 1 {
				t.Errorf("%s: told twice", line(v))
			}
			cycle := false
			for dir, ino := range at {
				cycle = cycle || inside(dir, v.Path) && ino == v.Stat.Ino
			}
			if cycle != (v.Kind == api.VisitCycle) && v.Kind != api.VisitErr {
				t.Errorf("%s: a cycle: %v", line(v), cycle)
			}
			if v.Kind == api.VisitPre {
				at[v.Path] = v.Stat.Ino
			}
		}
	}
}

// P14.6: where all directories lead to all others each way is gone, and ends.
func TestEachToEach(t *testing.T) {
	var lines []string
	for i := range 5 {
		lines = append(lines, fmt.Sprintf("d /%d", i))
	}
	for i := range 5 {
		for k := range 5 {
			lines = append(lines, fmt.Sprintf("l /%d/%d ../%d", i, k, k))
		}
	}
	p := grown(t, lines...)
	for i := range 5 {
		l := asked(t, walk.New(fault.New(p), logical, -1, fmt.Sprint("/", i)))
		// Of k directories in a row, each another one, there are 4, 4*3, .. ways; each way's last one leads to all k that it stands in.
		pre, cycles, ways := 0, 0, 1
		for k := 1; k <= 5; k++ {
			pre += ways
			cycles += ways * k
			ways *= 5 - k
		}
		same(t, "steps", []int{kinds(l, api.VisitPre), kinds(l, api.VisitCycle), len(l)}, []int{pre, cycles, pre + cycles})
	}
}
