package path_test

import (
	"strings"
	"testing"

	"tinsel/api"
	"tinsel/path"
)

// P3.1

func TestSplit(t *testing.T) {
	list := func(l ...string) []string { return l }
	for _, c := range []struct {
		s    string
		want api.Path
	}{
		{"//a/./b/", api.Path{Abs: true, Names: list("a", ".", "b"), Slash: true}},
		{"/", api.Path{Abs: true}},
		{"//", api.Path{Abs: true}},
		{"///", api.Path{Abs: true}},
		{"a", api.Path{Names: list("a")}},
		{"/a", api.Path{Abs: true, Names: list("a")}},
		{"//a", api.Path{Abs: true, Names: list("a")}},
		{"///a", api.Path{Abs: true, Names: list("a")}},
		{"a/", api.Path{Names: list("a"), Slash: true}},
		{"a//", api.Path{Names: list("a"), Slash: true}},
		{"/a/", api.Path{Abs: true, Names: list("a"), Slash: true}},
		{"a/b", api.Path{Names: list("a", "b")}},
		{"a//b", api.Path{Names: list("a", "b")}},
		{"a///b////c", api.Path{Names: list("a", "b", "c")}},
		{"///a///b///", api.Path{Abs: true, Names: list("a", "b"), Slash: true}},
		{".", api.Path{Names: list(".")}},
		{"..", api.Path{Names: list("..")}},
		{"...", api.Path{Names: list("...")}},
		{"./", api.Path{Names: list("."), Slash: true}},
		{"../", api.Path{Names: list(".."), Slash: true}},
		{"/.", api.Path{Abs: true, Names: list(".")}},
		{"/..", api.Path{Abs: true, Names: list("..")}},
		{"./a/./..//.", api.Path{Names: list(".", "a", ".", "..", ".")}},
		{"../a/../..", api.Path{Names: list("..", "a", "..", "..")}},
		{"/.././a/...", api.Path{Abs: true, Names: list("..", ".", "a", "...")}},
		{"a a/ /\n", api.Path{Names: list("a a", " ", "\n")}},
		{"a\\/b", api.Path{Names: list("a\\", "b")}},
		{"\xff/\xc3/\x80\x01", api.Path{Names: list("\xff", "\xc3", "\x80\x01")}},
		{"é/∕", api.Path{Names: list("é", "∕")}},
	} {
		splits(t, c.s, c.want)
	}
}

func TestSplitRefuses(t *testing.T) {
	refuses(t, "nothing", "", api.ENOENT)
	for _, s := range []string{"\x00", "a\x00", "\x00a", "a\x00b", "/\x00", "\x00/", "a/\x00/b", "a/b\x00", "//a//\x00//"} {
		refuses(t, "a byte 0", s, api.EINVAL)
	}
}

func TestSplitOfLongNames(t *testing.T) {
	good, bad := long(api.NameMax), long(api.NameMax+1)
	for _, form := range []string{"X", "/X", "X/", "//X//", "a/X", "X/a", "a/X/a", "../X/.", "a/X//"} {
		s := strings.ReplaceAll(form, "X", good)
		if _, e := path.Split(s); e != api.OK {
			t.Errorf("Split(%q): %v", s, e)
		}
		refuses(t, "a name that is too long", strings.ReplaceAll(form, "X", bad), api.ENAMETOOLONG)
	}
	splits(t, good+"/"+good, api.Path{Names: []string{good, good}})
	dots := strings.Repeat(".", api.NameMax)
	splits(t, dots, api.Path{Names: []string{dots}})
	refuses(t, "dots", dots+".", api.ENAMETOOLONG)
	splits(t, strings.Repeat("\xff", api.NameMax), api.Path{Names: []string{strings.Repeat("\xff", api.NameMax)}})
	refuses(t, "bytes, not runes", strings.Repeat("é", 14), api.ENAMETOOLONG) // 14 runes, 28 bytes
}

func TestSplitOfLongPaths(t *testing.T) {
	for _, n := range []int{api.PathMax - 1, api.PathMax} {
		p, e := path.Split(longPath(n))
		if e != api.OK || len(p.Names) != 127+n%2 || p.Slash != (n%2 == 0) {
			t.Errorf("%d bytes: %s, %v", n, told(p), e)
		}
		splits(t, strings.Repeat("/", n), api.Path{Abs: true})
		splits(t, strings.Repeat("/", n-1)+"a", api.Path{Abs: true, Names: []string{"a"}})
		splits(t, "a"+strings.Repeat("/", n-1), api.Path{Names: []string{"a"}, Slash: true})
	}
	for _, n := range []int{api.PathMax + 1, api.PathMax + 2, 1000, 1 << 20} {
		refuses(t, "names", longPath(n), api.ENAMETOOLONG)
		refuses(t, "slashes", strings.Repeat("/", n), api.ENAMETOOLONG)
		refuses(t, "one name", long(n), api.ENAMETOOLONG)
		refuses(t, "a slash at the end", "a"+strings.Repeat("/", n-1), api.ENAMETOOLONG)
	}
}

// R2: what is too long is told ahead of a byte 0, wherever the two stand.
func TestSplitTwoThingsWrong(t *testing.T) {
	bad := long(api.NameMax + 1)
	for _, s := range []string{
		"\x00/" + bad, bad + "/\x00", "a\x00/b/" + bad + "/", bad[1:] + "\x00", "\x00" + bad[1:],
		"\x00" + longPath(api.PathMax), longPath(api.PathMax) + "\x00", "/\x00/" + longPath(api.PathMax),
		strings.Repeat("\x00", api.NameMax+1), strings.Repeat("\x00/", api.PathMax),
	} {
		refuses(t, "too long, and a byte 0", s, api.ENAMETOOLONG)
	}
	refuses(t, "just not too long, and a byte 0", strings.Repeat("\x00", api.NameMax), api.EINVAL)
	refuses(t, "just not too long, and a byte 0", longPath(api.PathMax-1)+"\x00", api.EINVAL)
}

func TestString(t *testing.T) {
	list := func(l ...string) []string { return l }
	for _, c := range []struct {
		p    api.Path
		want string
	}{
		{api.Path{}, "."},
		{api.Path{Names: list()}, "."},
		{api.Path{Slash: true}, "."},
		{api.Path{Abs: true}, "/"},
		{api.Path{Abs: true, Slash: true}, "/"},
		{api.Path{Names: list("a")}, "a"},
		{api.Path{Names: list("a"), Slash: true}, "a/"},
		{api.Path{Abs: true, Names: list("a")}, "/a"},
		{api.Path{Abs: true, Names: list("a"), Slash: true}, "/a/"},
		{api.Path{Names: list("a", "b", "c")}, "a/b/c"},
		{api.Path{Abs: true, Names: list("a", ".", "..", "b"), Slash: true}, "/a/./../b/"},
		{api.Path{Names: list(".")}, "."},
		{api.Path{Names: list("..")}, ".."},
		{api.Path{Names: list("\xff", "\x00")}, "\xff/\x00"},
		{api.Path{Names: list(long(400), long(400))}, long(400) + "/" + long(400)},
	} {
		is(t, "String of "+told(c.p), path.String(c.p), c.want)
	}
}
