package walk_test

import (
	"fmt"
	"slices"
	"strings"
	"testing"

	"tinsel/api"
	"tinsel/walk"
)

// follows: what is told with links not followed, followed at roots alone, and
// followed everywhere.
func follows(t *testing.T, what string, lines, from, not, atRoots, all []string) {
	t.Helper()
	g := gate(t, lines...)
	tells(t, what+", not followed", g, 0, -1, from, not...)
	tells(t, what+", followed at roots", g, roots, -1, from, atRoots...)
	tells(t, what+", followed", g, logical, -1, from, all...)
	tells(t, what+", followed", g, logical|roots, -1, from, all...)
}

// Links to files and to directories.
func TestLinks(t *testing.T) {
	lines := list("d /t", "d /o", "f /o/x 9", "f /f 1", "l /t/f ../f", "l /t/o /o", "l /t/oo o", "l /l t", "l /ff t/f")
	follows(t, "links", lines, list("/t"),
		list("pre /t 0", "file /t/f 1", "file /t/o 1", "file /t/oo 1"),
		list("pre /t 0", "file /t/f 1", "file /t/o 1", "file /t/oo 1"),
		list("pre /t 0", "file /t/f 1", "pre /t/o 1", "file /t/o/x 2", "pre /t/oo 1", "file /t/oo/x 2"))
	follows(t, "roots that are links", lines, list("/ff", "/l"),
		list("file /ff 0", "file /l 0"),
		list("file /ff 0", "pre /l 0", "file /l/f 1", "file /l/o 1", "file /l/oo 1"),
		list("file /ff 0", "pre /l 0", "file /l/f 1", "pre /l/o 1", "file /l/o/x 2", "pre /l/oo 1", "file /l/oo/x 2"))
	slash := list("pre /t/o/ 0", "file /t/o/x 1")
	follows(t, "a root with a slash behind it", lines, list("/t/o/"), slash, slash, slash)
	follows(t, "a root through a link", lines, list("/l/o/x", "/l/o"),
		list("file /l/o/x 0", "file /l/o 0"),
		list("file /l/o/x 0", "pre /l/o 0", "file /l/o/x 1"),
		list("file /l/o/x 0", "pre /l/o 0", "file /l/o/x 1"))
	follows(t, "a link to a file with a slash", lines, list("/ff/", "/t/f//"),
		list("err /ff/ 0 20", "err /t/f// 0 20"),
		list("err /ff/ 0 20", "err /t/f// 0 20"),
		list("err /ff/ 0 20", "err /t/f// 0 20"))
}

// A directory that is led to several times is gone into each time, unless one
// stands in it.
func TestManyWays(t *testing.T) {
	follows(t, "many ways", list("d /t", "d /t/a", "f /t/a/x 1", "l /t/b a", "l /t/c b", "l /t/d ./a/"), list("/t", "/t/b"),
		list("pre /t 0", "pre /t/a 1", "file /t/a/x 2", "file /t/b 1", "file /t/c 1", "file /t/d 1", "file /t/b 0"),
		list("pre /t 0", "pre /t/a 1", "file /t/a/x 2", "file /t/b 1", "file /t/c 1", "file /t/d 1", "pre /t/b 0", "file /t/b/x 1"),
		list("pre /t 0", "pre /t/a 1", "file /t/a/x 2", "pre /t/b 1", "file /t/b/x 2", "pre /t/c 1", "file /t/c/x 2", "pre /t/d 1", "file /t/d/x 2", "pre /t/b 0", "file /t/b/x 1"))
}

// Cycles: links to the directory that holds them, further up, and to one another.
func TestCycles(t *testing.T) {
	follows(t, "to what holds it", list("d /t", "l /t/l .", "f /t/x 1"), list("/t"),
		list("pre /t 0", "file /t/l 1", "file /t/x 1"),
		list("pre /t 0", "file /t/l 1", "file /t/x 1"),
		list("pre /t 0", "cycle /t/l 1", "file /t/x 1"))
	follows(t, "a root that leads to what holds it", list("d /t", "l /t/l .", "f /t/x 1"), list("/t/l"),
		list("file /t/l 0"),
		list("pre /t/l 0", "file /t/l/l 1", "file /t/l/x 1"),
		list("pre /t/l 0", "cycle /t/l/l 1", "file /t/l/x 1"))
	up := list("d /t", "d /t/a", "d /t/a/b", "l /t/a/b/up ../..", "l /t/a/b/root /", "f /t/x 1")
	follows(t, "further up", up, list("/t"),
		list("pre /t 0", "pre /t/a 1", "pre /t/a/b 2", "file /t/a/b/up 3", "file /t/a/b/root 3", "file /t/x 1"),
		list("pre /t 0", "pre /t/a 1", "pre /t/a/b 2", "file /t/a/b/up 3", "file /t/a/b/root 3", "file /t/x 1"),
		list("pre /t 0", "pre /t/a 1", "pre /t/a/b 2", "cycle /t/a/b/up 3", "pre /t/a/b/root 3", "cycle /t/a/b/root/t 4", "file /t/x 1"))
	follows(t, "out of the tree and back", up, list("/t/a/b"),
		list("pre /t/a/b 0", "file /t/a/b/up 1", "file /t/a/b/root 1"),
		list("pre /t/a/b 0", "file /t/a/b/up 1", "file /t/a/b/root 1"),
		list("pre /t/a/b 0", "pre /t/a/b/up 1", "pre /t/a/b/up/a 2", "cycle /t/a/b/up/a/b 3", "file /t/a/b/up/x 2",
			"pre /t/a/b/root 1", "pre /t/a/b/root/t 2", "pre /t/a/b/root/t/a 3", "cycle /t/a/b/root/t/a/b 4", "file /t/a/b/root/t/x 3"))
	one := list("d /t", "d /t/a", "d /t/b", "l /t/a/l ../b", "l /t/b/l ../a")
	follows(t, "to one another", one, list("/t"),
		list("pre /t 0", "pre /t/a 1", "file /t/a/l 2", "pre /t/b 1", "file /t/b/l 2"),
		list("pre /t 0", "pre /t/a 1", "file /t/a/l 2", "pre /t/b 1", "file /t/b/l 2"),
		list("pre /t 0", "pre /t/a 1", "pre /t/a/l 2", "cycle /t/a/l/l 3", "pre /t/b 1", "pre /t/b/l 2", "cycle /t/b/l/l 3"))
	tells(t, "with post", gate(t, one...), logical|post, -1, list("/t"),
		"pre /t 0", "pre /t/a 1", "pre /t/a/l 2", "cycle /t/a/l/l 3", "post /t/a/l 2", "post /t/a 1",
		"pre /t/b 1", "pre /t/b/l 2", "cycle /t/b/l/l 3", "post /t/b/l 2", "post /t/b 1", "post /t 0")
	tells(t, "at the limit", gate(t, one...), logical|post, 1, list("/t/a"), "pre /t/a 0", "pre /t/a/l 1", "post /t/a/l 1", "post /t/a 0")
	tells(t, "at the limit", gate(t, one...), logical|post, 2, list("/t/a"), "pre /t/a 0", "pre /t/a/l 1", "cycle /t/a/l/l 2", "post /t/a/l 1", "post /t/a 0")
}

// A cycle is one of directories that one stands in: roots are no such ones for
// one another, and what was left is none either.
func TestNoCycles(t *testing.T) {
	tells(t, "roots", gate(t, "d /t", "d /t/a", "l /l t"), logical, -1, list("/t", "/t/a", "/t", "/l"),
		"pre /t 0", "pre /t/a 1", "pre /t/a 0", "pre /t 0", "pre /t/a 1", "pre /l 0", "pre /l/a 1")
	tells(t, "beside", gate(t, "d /t", "d /t/a", "l /t/b a", "d /t/c", "l /t/c/l ../a"), logical, -1, list("/t"),
		"pre /t 0", "pre /t/a 1", "pre /t/b 1", "pre /t/c 1", "pre /t/c/l 2")
	tells(t, "files", gate(t, "d /t", "f /t/a 1", "h /t/b /t/a", "l /t/c a"), logical, -1, list("/t"),
		"pre /t 0", "file /t/a 1", "file /t/b 1", "file /t/c 1")
}

// A cycle is told with what the call told, and is not read.
func TestCycleIsNotRead(t *testing.T) {
	g := gate(t, "d /t", "l /t/l /t")
	l := asked(t, walk.New(g, logical|post, -1, "/t"))
	same(t, "steps", text(l), "pre /t 0\ncycle /t/l 1\npost /t 0\n")
	st, _ := g.Proc().Stat("/t")
	for _, v := range l {
		same(t, line(v), []any{v.Stat, v.Errno}, []any{st, api.OK})
	}
	counted(t, "a cycle", g, 1, 4, 1, 2, 0)
}

// Links that lead nowhere, and loops of links, are files.
func TestBrokenLinks(t *testing.T) {
	lines := list("d /t", "l /t/no x", "l /t/deep x/y", "l /t/me me", "l /t/a b", "l /t/b a", "l /t/far /no/where", "f /t/f 1", "l /t/under f/x", "l /t/slash f/")
	files := list("pre /t 0", "file /t/no 1", "file /t/deep 1", "file /t/me 1", "file /t/a 1", "file /t/b 1", "file /t/far 1", "file /t/f 1", "file /t/under 1", "file /t/slash 1")
	followed := slices.Clone(files)
	followed[8], followed[9] = "err /t/under 1 20", "err /t/slash 1 20" // that is neither ENOENT nor ELOOP
	follows(t, "in a directory", lines, list("/t"), files, files, followed)
	at := list("file /t/no 0", "file /t/me 0", "file /t/a 0", "file /t/far 0")
	follows(t, "roots", lines, list("/t/no", "/t/me", "/t/a", "/t/far"), at, at, at)
	follows(t, "roots that are no files", lines, list("/t/under", "/t/slash"), list("file /t/under 0", "file /t/slash 0"),
		list("err /t/under 0 20", "err /t/slash 0 20"), list("err /t/under 0 20", "err /t/slash 0 20"))
	slash := list("err /t/no/ 0 2", "err /t/me/ 0 40", "err /t/me/x 0 40", "err /t/no/x 0 2")
	follows(t, "with a slash", lines, list("/t/no/", "/t/me/", "/t/me/x", "/t/no/x"), slash, slash, slash)
}

// Lstat is asked, too, behind ENOENT and ELOOP of Stat, and behind nothing else.
func TestWhoIsAsked(t *testing.T) {
	lines := list("d /t", "f /t/f 1", "l /t/no x", "l /t/me me", "l /t/under f/x", "l /t/d .")
	for _, v := range []struct {
		root        string
		stat, lstat int
	}{{"/t/f", 1, 0}, {"/t", 1, 0}, {"/t/no", 1, 1}, {"/t/me", 1, 1}, {"/t/under", 1, 0}, {"/t/x", 1, 1}, {"", 1, 1}, {"/t/me/x", 1, 1}, {"/t/f/x", 1, 0}, {"/t/d", 1, 0}, {strings.Repeat("a", 28), 1, 0}, {"a\x00", 1, 0}} {
		for _, flags := range []int{logical, roots, logical | roots} {
			g := gate(t, lines...)
			asked(t, walk.New(g, flags, 0, v.root))
			counted(t, fmt.Sprintf("%q, flags %d", v.root, flags), g, 0, 0, 0, v.stat, v.lstat)
		}
		g := gate(t, lines...)
		asked(t, walk.New(g, sorted|post, 0, v.root))
		counted(t, fmt.Sprintf("%q", v.root), g, 0, 0, 0, 0, 1)
	}
	g := gate(t, lines...)
	asked(t, walk.New(g, roots, -1, "/t"))
	counted(t, "roots alone", g, 1, 8, 1, 1, 5)
	g = gate(t, lines...)
	asked(t, walk.New(g, logical, -1, "/t"))
	counted(t, "everywhere", g, 1, 8, 1, 6, 2)
}

// A path leads through SymMax links at most: a way that goes on through links
// ends with a link that can't be followed any more.
func TestTooManyLinks(t *testing.T) {
	lines := list("d /t")
	for i := range 12 {
		lines = append(lines, fmt.Sprintf("d /t/%d", i), fmt.Sprintf("l /t/%d/n ../%d", i, i+1))
	}
	want := list("pre /t/0 0")
	for i := 1; i <= api.SymMax; i++ {
		want = append(want, fmt.Sprintf("pre /t/0%s %d", strings.Repeat("/n", i), i))
	}
	tells(t, "a chain", gate(t, lines...), logical, -1, list("/t/0"), append(want, fmt.Sprintf("file /t/0%s 9", strings.Repeat("/n", 9)))...)
	tells(t, "through too many", gate(t, lines...), 15, -1, list("/t/0"+strings.Repeat("/n", 10)), "err /t/0"+strings.Repeat("/n", 10)+" 0 40")
}

// Paths that grow too long on the way are told as errors, and the walk goes on.
func TestLongPaths(t *testing.T) {
	name := strings.Repeat("n", api.NameMax)
	g := gate(t, "d /d")
	good(t, "Chdir", g.Chdir("/d"))
	for range 10 { // 10 times 28 bytes from /d on
		grow(t, g.Proc(), "d "+name)
		grow(t, g.Proc(), "f z 1")
		good(t, "Chdir", g.Chdir(name))
	}
	good(t, "Chdir", g.Chdir("/"))
	for _, root := range list("d", "/d", "///////////////d") { // the deepest z lies at a path of 255 bytes, of 256, ..
		want := longSteps(root, name, 0)
		tells(t, "long paths", g, 0, -1, list(root), want...)
		tells(t, "long paths", g, logical, -1, list(root), want...)
	}
	long := "/" + strings.Repeat("x/", 127)
	tells(t, "long roots", g, 0, -1, list(long, long+"x", name+"n", "/"+name+"n"), "err "+long+" 0 2", "err "+long+"x 0 36", "err "+name+"n 0 36", "err /"+name+"n 0 36")
}

// longSteps: the steps of directories with a name and a z each, too long paths
// being errors.
func longSteps(p, name string, depth int) []string {
	if len(p) > api.PathMax {
		return list(fmt.Sprintf("err %s %d 36", p, depth))
	}
	l := append(list(fmt.Sprintf("pre %s %d", p, depth)), longSteps(p+"/"+name, name, depth+1)...)
	if len(p)+2 > api.PathMax {
		return append(l, fmt.Sprintf("err %s/z %d 36", p, depth+1))
	}
	return append(l, fmt.Sprintf("file %s/z %d", p, depth+1))
}
