package path_test

import (
	"slices"
	"strings"
	"testing"

	"tinsel/api"
	"tinsel/path"
)

// P3.2

func TestClean(t *testing.T) {
	for _, c := range [][2]string{
		{"/../a//b/../c/.", "/a/c"},
		{"a/..", "."},
		{"../../x", "../../x"},
		{"", "."},
		{".", "."},
		{"./", "."},
		{"././/.", "."},
		{"/", "/"},
		{"///", "/"},
		{"/.", "/"},
		{"/./", "/"},
		{"/..", "/"},
		{"/../", "/"},
		{"/../../..", "/"},
		{"/../..//../a", "/a"},
		{"..", ".."},
		{"../", ".."},
		{"../..", "../.."},
		{"../../", "../.."},
		{"./..", ".."},
		{"../.", ".."},
		{"a", "a"},
		{"a/", "a"},
		{"a//", "a"},
		{"//a", "/a"},
		{"///a///b///", "/a/b"},
		{"./a", "a"},
		{"a/.", "a"},
		{"a/./b", "a/b"},
		{"a/../b", "b"},
		{"a/../..", ".."},
		{"a/../../b", "../b"},
		{"a/b/..", "a"},
		{"a/b/../..", "."},
		{"a/b/../../..", ".."},
		{"/a/../..", "/"},
		{"/a/b/../../../c", "/c"},
		{"../a/..", ".."},
		{"../a/../..", "../.."},
		{"a/./../b", "b"},
		{"a//../b", "b"},
		{"...", "..."},
		{".../..", "."},
		{"../...", "../..."},
		{"/.../....", "/.../...."},
		{"..a/..", "."},
		{"a../..", "."},
		{".a/.b./..", ".a"},
		{"a/ /..", "a"},
		{"\x00/../\xff//\xc3/.", "\xff/\xc3"},
		{long(300) + "/../" + long(400) + "/", long(400)},
	} {
		is(t, "Clean of "+c[0], path.Clean(c[0]), c[1])
	}
}

func TestJoin(t *testing.T) {
	for _, c := range []struct {
		l    []string
		want string
	}{
		{nil, ""},
		{[]string{}, ""},
		{[]string{""}, ""},
		{[]string{"", "", ""}, ""},
		{[]string{"a", "", "../b"}, "b"},
		{[]string{"a"}, "a"},
		{[]string{"a/"}, "a"},
		{[]string{"a", "b"}, "a/b"},
		{[]string{"a/", "/b/"}, "a/b"},
		{[]string{"", "a"}, "a"},
		{[]string{"a", ""}, "a"},
		{[]string{"", "/a"}, "/a"},
		{[]string{"/", "a"}, "/a"},
		{[]string{"/", "/"}, "/"},
		{[]string{"/", "..", "a"}, "/a"},
		{[]string{"."}, "."},
		{[]string{".", ""}, "."},
		{[]string{".", "."}, "."},
		{[]string{"a", ".."}, "."},
		{[]string{"a", "..", ".."}, ".."},
		{[]string{"..", "a", "..", ".."}, "../.."},
		{[]string{"a/b", "../c", "./d"}, "a/c/d"},
		{[]string{".", ".."}, ".."},
		{[]string{"a.", ".b"}, "a./.b"},
		{[]string{"", "a", "", "", "b", ""}, "a/b"},
	} {
		is(t, "Join of "+strings.Join(c.l, ", "), path.Join(c.l...), c.want)
	}
}

// P3.3

func TestBase(t *testing.T) {
	for _, c := range [][3]string{
		{"/a/b.c/", ".c", "b"},
		{"/", "", "/"},
		{"///", "", "/"},
		{"/", "/", "/"},
		{"//", "/", "/"},
		{"//", "//", "/"},
		{"", "", "."},
		{"", ".", "."},
		{"", "a", "."},
		{"a", "", "a"},
		{"a/", "", "a"},
		{"a//", "", "a"},
		{"/a", "", "a"},
		{"//a", "", "a"},
		{"a/b", "", "b"},
		{"a//b", "", "b"},
		{"a//b///", "", "b"},
		{"b", "b", "b"},
		{"a/b", "b", "b"},
		{"a/b/", "b", "b"},
		{".c", ".c", ".c"},
		{"b", "ab", "b"},
		{"a/b", "a/b", "b"},
		{"a/b", "/b", "b"},
		{"b.c", "c", "b."},
		{"b.c", ".", "b.c"},
		{"b.c", "b", "b.c"},
		{"b.c.c", ".c", "b.c"},
		{"bb", "b", "b"},
		{"b.c/", ".c/", "b.c"},
		{"b.c", ".C", "b.c"},
		{".", "", "."},
		{"..", "", ".."},
		{"..", ".", "."},
		{"..", "..", ".."},
		{"...", "..", "."},
		{"a/.", "", "."},
		{"a/..", "", ".."},
		{"a/../", "", ".."},
		{"/.", "", "."},
		{"/..", "", ".."},
		{"a\xff/\xffb\x00", "\x00", "\xffb"},
		{"a/" + long(300), long(299), "n"},
		{"a/" + long(300), long(300), long(300)},
		{"a/" + long(300), long(301), long(300)},
	} {
		is(t, "Base of "+c[0]+" without "+c[1], path.Base(c[0], c[1]), c[2])
	}
}

func TestDir(t *testing.T) {
	for _, c := range [][2]string{
		{"/a/b/", "/a"},
		{"a", "."},
		{"", "."},
		{"/", "/"},
		{"//", "/"},
		{"///", "/"},
		{"a/", "."},
		{"a///", "."},
		{"/a", "/"},
		{"/a/", "/"},
		{"//a", "/"},
		{"///a//", "/"},
		{"a/b", "a"},
		{"a//b", "a"},
		{"a///b//", "a"},
		{"a//b//c", "a//b"},
		{"//a//b//c//", "//a//b"},
		{"//a//b", "//a"},
		{".", "."},
		{"..", "."},
		{"../", "."},
		{"./a", "."},
		{"../a", ".."},
		{"/.", "/"},
		{"/..", "/"},
		{"/../..", "/.."},
		{"a/.", "a"},
		{"a/..", "a"},
		{"a/../b", "a/.."},
		{"./a/./b", "./a/."},
		{".../...", "..."},
		{"\xff/\x00/b", "\xff/\x00"},
		{long(300) + "/b", long(300)},
	} {
		is(t, "Dir of "+c[0], path.Dir(c[0]), c[1])
	}
}

// P3.4, P3.6

func TestRel(t *testing.T) {
	for _, c := range [][3]string{
		{"/a/b", "/a/c/d", "../c/d"},
		{"/", "/", "."},
		{".", ".", "."},
		{"", "", "."},
		{"", ".", "."},
		{"a", "a", "."},
		{"a/", "./a//", "."},
		{"/a/b", "/a/b", "."},
		{"..", "..", "."},
		{"../..", "../../", "."},
		{"/", "/a/b", "a/b"},
		{"/a/b", "/", "../.."},
		{".", "a/b", "a/b"},
		{"", "a", "a"},
		{"a/b", ".", "../.."},
		{"a", "", ".."},
		{"a", "a/b", "b"},
		{"a/b", "a", ".."},
		{"a", "b", "../b"},
		{"a", "ab", "../ab"},
		{"ab", "a", "../a"},
		{"a/b", "a/bc/d", "../bc/d"},
		{"a/b", "ab", "../../ab"},
		{".", "..", ".."},
		{".", "../..", "../.."},
		{".", "../a", "../a"},
		{"a", "..", "../.."},
		{"a/b", "../..", "../../../.."},
		{"a/b", "../a/b", "../../../a/b"},
		{"..", "../a", "a"},
		{"..", "../..", ".."},
		{"../a", "..", ".."},
		{"../a", "../b", "../b"},
		{"../a", "../..", "../.."},
		{"../../a/b", "../../a/c", "../c"},
		{"a/b/../c", "a/./d", "../d"},
		{"/../a", "/a/../b", "../b"},
		{"a/..", "b", "b"},
		{"..a", "b", "../b"},
		{"...", "..", "../.."},
		{"/...", "/", ".."},
		{"\xff/\x00", "\xff/\xc3", "../\xc3"},
	} {
		rel(t, c[0], c[1], c[2])
		is(t, "Rel from "+c[0]+", joined", path.Clean(path.Join(c[0], c[2])), path.Clean(c[1]))
	}
}

func TestRelNone(t *testing.T) {
	for _, c := range [][2]string{
		{"../x", "y"},
		{"..", "y"},
		{"..", "."},
		{"..", ""},
		{"../..", ".."},
		{"../..", "../a"},
		{"../../a", "../b"},
		{"../a", "a"},
		{"a/../..", "b"},
		{"..", "..a"},
		{"..", "..."},
		{"/", "a"},
		{"a", "/"},
		{"/", "."},
		{".", "/"},
		{"", "/"},
		{"/", ""},
		{"/a", "a"},
		{"a", "/a"},
		{"/..", ".."},
		{"..", "/.."},
	} {
		noRel(t, c[0], c[1])
	}
}

func TestWithin(t *testing.T) {
	for _, c := range [][2]string{
		{"/", "/"}, {"/", "/a"}, {"/", "/a/b"}, {"/", "/.."}, {"//", "/a"},
		{".", "."}, {"", ""}, {".", ""}, {"", "."}, {".", "a"}, {".", "a/b"}, {"", "a/b"}, {".", "a/.."},
		{".", "..."}, {".", "..a"}, {".", "..a/b"}, {".", ".a"},
		{"a", "a"}, {"a", "a/"}, {"a/", "a"}, {"a", "a/b"}, {"a", "a/b/c"}, {"a/b", "a/b/c"}, {"a//b/.", "./a/b"},
		{"/a", "/a"}, {"/a", "/a/b"}, {"/a/../b", "/b/c"},
		{"..", ".."}, {"..", "../a"}, {"..", "../.."}, {"../..", "../../a"}, {"../a", "../a/b"},
		{"a\xff", "a\xff/\x00"},
	} {
		within(t, c[0], c[1], true)
	}
	for _, c := range [][2]string{
		{"/", "a"}, {"/", "."}, {"/", ""}, {"/", ".."}, {".", "/"}, {"", "/"}, {".", "/a"}, {"a", "/a"}, {"/a", "a"}, {"..", "/.."},
		{".", ".."}, {".", "../a"}, {"", ".."}, {".", "../.."}, {".", "a/../.."}, {"a/..", ".."},
		{"a", "."}, {"a", ""}, {"a", ".."}, {"a", "b"}, {"a", "ab"}, {"ab", "a"}, {"a/b", "a"}, {"a/b", "a/bc"}, {"a/b", "ab"}, {"a", "b/a"},
		{"a/b", "a/c/b"}, {"a", "a/../b"}, {"a", "a/.."},
		{"/a", "/"}, {"/a", "/ab"}, {"/ab", "/a"}, {"/a", "/b"}, {"/a/b", "/a"}, {"/a", "/a/.."},
		{"..", "."}, {"..", "a"}, {"..", "..a"}, {"..", "..."}, {"../..", ".."}, {"../..", "../a"}, {"../a", "../b"}, {"../a", ".."},
		{"a\xff", "a\xfe"}, {"a", "a\x00"},
	} {
		within(t, c[0], c[1], false)
	}
}

func TestPrefixes(t *testing.T) {
	prefixes(t, "")
	for _, s := range []string{"/", "//", "/.", "/..", "/a/..", ".", "./", "././.", "a/..", "a/b/../.."} {
		prefixes(t, s)
	}
	prefixes(t, "a", "a")
	prefixes(t, "a/", "a")
	prefixes(t, "/a", "/a")
	prefixes(t, "//a//", "/a")
	prefixes(t, "/a/./b", "/a", "/a/b")
	prefixes(t, "a/b/c", "a", "a/b", "a/b/c")
	prefixes(t, "/a//b/../c/", "/a", "/a/c")
	prefixes(t, "..", "..")
	prefixes(t, "../../x", "..", "../..", "../../x")
	prefixes(t, "a/../..", "..")
	prefixes(t, "/../a", "/a")
	prefixes(t, "...", "...")
	prefixes(t, ".a/..b", ".a", ".a/..b")
	prefixes(t, "\x00/\xff", "\x00", "\x00/\xff")
	n := long(api.PathMax)
	prefixes(t, n+"/"+n, n, n+"/"+n)
}

// leave: the first n of Prefixes.
func leave(s string, n int) []string {
	var l []string
	if n == 0 {
		return l
	}
	for p := range path.Prefixes(s) {
		l = append(l, p)
		if len(l) == n {
			break
		}
	}
	return l
}

// R3: they may be left at any time, gone over again, and nested.
func TestPrefixesLeftEarly(t *testing.T) {
	all := []string{"/a", "/a/b", "/a/b/c"}
	for n := range 5 {
		if got := leave("/a/b/c", n); !slices.Equal(got, all[:min(n, 3)]) {
			t.Errorf("left behind %d: %q", n, got)
		}
	}
	seq := path.Prefixes("/a/b/c")
	for range seq {
		break
	}
	for range 3 {
		if got := slices.Collect(seq); !slices.Equal(got, all) {
			t.Errorf("gone over again: %q", got)
		}
	}
	var pairs []string
	for p := range seq {
		for q := range seq {
			if q == "/a/b/c" {
				break
			}
			pairs = append(pairs, p+"="+q)
		}
	}
	is(t, "nested", strings.Join(pairs, " "), "/a=/a /a=/a/b /a/b=/a /a/b=/a/b /a/b/c=/a /a/b/c=/a/b")
}

// One that is left asks for no more, and none of those behind it is told.
func TestPrefixesAskNoMore(t *testing.T) {
	for _, s := range []string{"a", "a/b/c/d", "/a/b", "../../a"} {
		calls := 0
		path.Prefixes(s)(func(string) bool { calls++; return false })
		if calls != 1 {
			t.Errorf("Prefixes(%q) went on %d times", s, calls)
		}
	}
}
