package path_test

import (
	"fmt"
	"slices"
	"strings"
	"sync"
	"testing"

	"tinsel/api"
	"tinsel/path"
)

// picture: what all calls say of two texts.
func picture(a, b string) string {
	p, e := path.Split(a)
	r, ok := path.Rel(a, b)
	return fmt.Sprintf("%s %v %q %q %q %q %q %q %v %v %q", told(p), e, path.String(p), path.Clean(a), path.Join(a, b),
		path.Base(a, b), path.Dir(a), r, ok, path.Within(a, b), slices.Collect(path.Prefixes(a)))
}

// odd: texts that are no paths, or none that a call would think of.
func odd() []string {
	l := []string{"", "\x00", "\x00\x00/\x00", "\xff", "\xff\xfe/\x80", "\xc3/\xa9", "é", "\u2215", "\ufeff/a", " ", "\n/\t", "~", "a\\b", "-", "*"}
	l = append(l, everyText("/.\x00\xff", 3)...)
	for _, n := range []int{api.NameMax, api.NameMax + 1, api.PathMax, api.PathMax + 1, 400} {
		l = append(l, long(n), strings.Repeat("/", n), strings.Repeat(".", n), strings.Repeat("../", n), strings.Repeat("a/", n), strings.Repeat("a/../", n), strings.Repeat("\x00/", n))
	}
	return l
}

// R1, R4: no call panics, each ends, and says the same again.
func TestOddTexts(t *testing.T) {
	l := odd()
	for i, a := range l {
		for _, b := range []string{a, "", "/", ".", "..", l[(i+1)%len(l)], l[(i*7+3)%len(l)]} {
			is(t, "again", picture(a, b), picture(a, b))
			is(t, "again", picture(b, a), picture(b, a))
		}
	}
}

// R1: bytes that are no letters stand in names like others, but for Split's byte 0.
func TestBytesInNames(t *testing.T) {
	for c := range 256 {
		if c == '/' || c == '.' {
			continue
		}
		n := string([]byte{byte(c)})
		is(t, "Clean", path.Clean("x//"+n+"/y/../"+n), "x/"+n+"/"+n)
		is(t, "Base", path.Base("/x/"+n+n+"/", n), n)
		is(t, "Dir", path.Dir(n+"/x"), n)
		rel(t, "x/"+n, "x/"+n+n, "../"+n+n)
		within(t, n, n+"/x", true)
		within(t, n, n+n, false)
		prefixes(t, "/"+n+"/"+n, "/"+n, "/"+n+"/"+n)
		if c == 0 {
			refuses(t, "a byte 0", "x/"+n, api.EINVAL)
		} else {
			splits(t, "/"+n+"//"+n+"/", api.Path{Abs: true, Names: []string{n, n}, Slash: true})
		}
	}
}

// R1: parts that no Split tells are put together as they are.
func TestOddParts(t *testing.T) {
	for _, names := range [][]string{{""}, {"", ""}, {"/"}, {"a/b", "\x00"}, {"..", "", "."}, slices.Repeat([]string{long(100)}, 1000)} {
		all := strings.Join(names, "/")
		is(t, "String", path.String(api.Path{Names: names}), all)
		is(t, "String", path.String(api.Path{Abs: true, Names: names}), "/"+all)
		is(t, "String", path.String(api.Path{Abs: true, Names: names, Slash: true}), "/"+all+"/")
	}
}

// R1: texts of many names are gone through in a short time.
func TestGreatTexts(t *testing.T) {
	const n = 200000
	names, back := strings.Repeat("a/", n), strings.Repeat("../", n)
	is(t, "Clean", path.Clean(names+back), ".")
	is(t, "Clean", path.Clean("/"+back+names+"b"), "/"+names+"b")
	is(t, "Join", path.Join(slices.Repeat([]string{"a"}, n)...), names[:2*n-1])
	rel(t, names, "b", back+"b")
	within(t, names, names+"b", true)
	count := 0
	for p := range path.Prefixes(names) {
		count++
		if len(p) != 2*count-1 {
			t.Fatalf("the prefix %d has %d bytes", count, len(p))
		}
	}
	if count != n {
		t.Errorf("%d prefixes, want %d", count, n)
	}
}

// R3: what is handed in is not changed, nor what lies behind its end, nor kept.
func TestHandedInStays(t *testing.T) {
	room := []string{"a", "", "../b", "behind", "the end"}
	l := room[:3]
	is(t, "Join", path.Join(l...), "b")
	p := api.Path{Abs: true, Names: l, Slash: true}
	is(t, "String", path.String(p), "/a//../b/")
	if !slices.Equal(room, []string{"a", "", "../b", "behind", "the end"}) {
		t.Errorf("what was handed in: %q", room)
	}
}

// R3: an answer's lists are new memory, their spare room too.
func TestAnswersAreNew(t *testing.T) {
	for _, s := range []string{"a", "a/b/c", "/a/b/c/d/e", longPath(api.PathMax)} {
		was, _ := path.Split(s)
		kept := told(was)
		p, _ := path.Split(s)
		all := p.Names[:cap(p.Names)]
		for i := range all {
			all[i] = "spoilt"
		}
		is(t, "another Split", told(was), kept)
		splits(t, s, was)
	}
}

// R4: the same answers, whoever else asks at the same time.
func TestManyAtOnce(t *testing.T) {
	texts := []string{"/a/../b//c/", "../../x", "a/b/c", "."}
	seq := path.Prefixes("/a/b/c/d")
	var want []string
	for _, a := range texts {
		want = append(want, picture(a, texts[0]))
	}
	got := make([]string, 8*len(texts))
	var all sync.WaitGroup
	for i := range got {
		all.Go(func() {
			got[i] = picture(texts[i%len(texts)], texts[0]) + strings.Join(slices.Collect(seq), " ")
		})
	}
	all.Wait()
	for i := range got {
		is(t, "at once", got[i], want[i%len(texts)]+"/a /a/b /a/b/c /a/b/c/d")
	}
}
