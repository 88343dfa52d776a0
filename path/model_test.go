package path_test

import (
	std "path"
	"path/filepath"
	"regexp"
	"slices"
	"strings"
	"testing"

	"tinsel/api"
	"tinsel/path"
)

// The models tell each call another way: by texts that are written anew, by
// patterns, and by the library's own calls where these say the same.

var (
	someSlashes = regexp.MustCompile(`/+`)
	nameBack    = regexp.MustCompile(`/([^/.][^/]*|\.[^/.][^/]*|\.\.[^/]+)/\.\./`) // a name that is neither . nor ..
	lastName    = regexp.MustCompile(`([^/]+)/*$`)
	aheadOfLast = regexp.MustCompile(`^(.*[^/])/+[^/]+/*$`)
	atTheRoot   = regexp.MustCompile(`^/+[^/]*/*$`)
)

// modelClean: the chapter's rules, one after the other, till none changes anything.
func modelClean(s string) string {
	abs := strings.HasPrefix(s, "/")
	s = someSlashes.ReplaceAllString("/"+s+"/", "/")
	for was := ""; was != s; {
		was = s
		s = strings.Replace(s, "/./", "/", 1)
		if m := nameBack.FindStringIndex(s); m != nil {
			s = s[:m[0]] + "/" + s[m[1]:]
		}
		if abs && strings.HasPrefix(s, "/../") {
			s = s[3:]
		}
	}
	s = strings.Trim(s, "/")
	switch {
	case abs:
		return "/" + s
	case s == "":
		return "."
	}
	return s
}

func modelBase(s, suffix string) string {
	last := "."
	if m := lastName.FindStringSubmatch(s); m != nil {
		last = m[1]
	} else if s != "" {
		last = "/"
	}
	if n := len(last) - len(suffix); n > 0 && last[n:] == suffix {
		return last[:n]
	}
	return last
}

func modelDir(s string) string {
	if m := aheadOfLast.FindStringSubmatch(s); m != nil {
		return m[1]
	}
	if atTheRoot.MatchString(s) {
		return "/"
	}
	return "."
}

// modelWithin: by texts, of paths that are clean.
func modelWithin(dir, s string) bool {
	switch dir {
	case s:
		return true
	case "/":
		return strings.HasPrefix(s, "/")
	case ".":
		return !strings.HasPrefix(s, "/") && !strings.HasPrefix(s+"/", "../")
	}
	return strings.HasPrefix(s, dir+"/")
}

func modelPrefixes(clean string) []string {
	var l []string
	if clean == "." || clean == "/" {
		return l
	}
	for i := range clean {
		if i > 0 && clean[i] == '/' {
			l = append(l, clean[:i])
		}
	}
	return append(l, clean)
}

func modelSplit(s string) api.Path {
	l := strings.FieldsFunc(s, func(r rune) bool { return r == '/' })
	return api.Path{Abs: strings.HasPrefix(s, "/"), Names: l, Slash: strings.HasSuffix(s, "/") && len(l) > 0}
}

// P3.1 to P3.5, of every text of a few letters.
func TestEveryText(t *testing.T) {
	for _, s := range everyText("/.a", 9) {
		c := modelClean(s)
		is(t, "Clean of "+s, path.Clean(s), c)
		is(t, "the library's Clean of "+s, std.Clean(s), c)
		is(t, "Clean of Clean of "+s, path.Clean(c), c)
		is(t, "Dir of "+s, path.Dir(s), modelDir(s))
		for _, suffix := range []string{"", "a", ".a", ".", "..", "aa", "/", "a/"} {
			is(t, "Base of "+s+" without "+suffix, path.Base(s, suffix), modelBase(s, suffix))
		}
		is(t, "the library's Base of "+s, std.Base(s), path.Base(s, ""))
		is(t, "Dir and Base joined, of "+s, path.Join(path.Dir(s), path.Base(s, "")), c)
		prefixes(t, s, modelPrefixes(c)...)
		if s != "" {
			splits(t, s, modelSplit(s))
			splits(t, path.String(modelSplit(s)), modelSplit(s))
		}
	}
}

// P3.1, P3.5: Split of String of Split is Split, wherever the limits are.
func TestSplitOfString(t *testing.T) {
	for _, s := range []string{
		longPath(api.PathMax), longPath(api.PathMax - 1), "/" + longPath(api.PathMax-1),
		strings.Repeat("/", api.PathMax), strings.Repeat("//a", api.PathMax/3),
		strings.Repeat(long(api.NameMax)+"/", 9), "/" + long(api.NameMax) + "/",
		strings.Repeat("../", api.PathMax/3), "\xff/\x80\x01//\x7f/", " / /",
	} {
		p, e := path.Split(s)
		if e != api.OK {
			t.Errorf("Split(%q): %v", s, e)
		}
		splits(t, path.String(p), p)
		if n := len(path.String(p)); n > len(s) {
			t.Errorf("String of Split of %q has %d bytes", s, n)
		}
	}
}

// P3.2: Join of two and three.
func TestEveryJoin(t *testing.T) {
	all := everyText("/.a", 3)
	for _, a := range all {
		for _, b := range all {
			is(t, "Join of "+a+", "+b, path.Join(a, b), std.Join(a, b))
			for _, c := range []string{"", "..", "/", "a"} {
				is(t, "Join of "+a+", "+b+", "+c, path.Join(a, c, b), std.Join(a, c, b))
			}
		}
	}
}

// P3.4, P3.6, of every two texts of a few letters.
func TestEveryTwo(t *testing.T) {
	all := everyText("/.a", 5)
	for _, a := range all {
		for _, b := range all {
			within(t, a, b, modelWithin(modelClean(a), modelClean(b)))
			want, err := filepath.Rel(a, b)
			if err != nil {
				noRel(t, a, b)
				continue
			}
			rel(t, a, b, want)
			if got := path.Clean(path.Join(a, want)); got != modelClean(b) {
				t.Errorf("Rel(%q, %q): %q, joined %q", a, b, want, got)
			}
		}
	}
}

// P3.4: none, just where base has a `..` behind what both begin with, or one is absolute.
func TestEveryNoRel(t *testing.T) {
	all := []string{"/", "."}
	for _, s := range everyText("uab", 4) { // u stands for ..
		s = strings.Join(strings.Split(s, ""), "/")
		s = strings.ReplaceAll(s, "u", "..")
		all = append(all, s, "/"+s)
	}
	for _, a := range all {
		for _, b := range all {
			x, y := modelSplit(modelClean(a)), modelSplit(modelClean(b))
			n := 0
			for n < min(len(x.Names), len(y.Names)) && x.Names[n] == y.Names[n] {
				n++
			}
			none := x.Abs != y.Abs || slices.Contains(x.Names[n:], "..")
			if _, ok := path.Rel(a, b); ok == none {
				t.Errorf("Rel(%q, %q): %v, want %v", a, b, ok, !none)
			}
		}
	}
}

// P3.6: each of Prefixes is Within the one ahead of it.
func TestPrefixesWithin(t *testing.T) {
	for _, s := range everyText("/.a", 8) {
		ahead := ""
		for p := range path.Prefixes(s) {
			if ahead != "" && (!path.Within(ahead, p) || path.Within(p, ahead)) {
				t.Errorf("Prefixes(%q): %q behind %q", s, p, ahead)
			}
			is(t, "Clean of "+p, path.Clean(p), p)
			ahead = p
		}
		if c := path.Clean(s); c != "/" && c != "." {
			is(t, "the last one of "+s, ahead, c)
		}
	}
}
