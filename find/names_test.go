package find_test

import (
	"testing"

	"tinsel/api"
)

// called: a file of that path, with a directory's mode, as modes say nothing here.
func called(path string) api.Visit {
	return api.Visit{Kind: api.VisitPre, Path: path, Depth: 3, Stat: api.Stat{Mode: api.TypeDir}}
}

// fit, miss: do the tests hold of a path, in either of two kinds of visits?
func fit(t *testing.T, path string, tests ...string) {
	t.Helper()
	holds(t, true, file(path), 0, tests...)
	holds(t, true, called(path), 0, tests...)
}

func miss(t *testing.T, path string, tests ...string) {
	t.Helper()
	holds(t, false, file(path), 0, tests...)
	holds(t, false, called(path), 0, tests...)
}

// P20.2: -name looks at the last name of a path alone.
func TestName(t *testing.T) {
	fit(t, "/a/b.c", "-name b.c", "-name *", "-name *.c", "-name b*", "-name b?c", "-name [ab].c", "-name [!a].c", "-name \\b.c", "-name ???", "-name [[:alpha:]].c", "-name b.[a-c]")
	miss(t, "/a/b.c", "-name a", "-name /a/b.c", "-name a/b.c", "-name b", "-name .c", "-name c", "-name *a*", "-name B.C", "-name b.C", "-name */*", "-name ?", "-name [a].c", "-name ", "-name b.c/", "-name [!b]*", "-name \\*", "-name b.c*c")
	fit(t, "b", "-name b", "-name ?", "-name [b]")
	fit(t, "a/b/", "-name b", "-name ?")
	fit(t, "a//b//", "-name b")
	fit(t, "/", "-name /", "-name ?", "-name *", "-name [/]")
	fit(t, "//", "-name /")
	fit(t, "", "-name .", "-name ?")
	fit(t, ".", "-name .", "-name ?", "-name *")
	fit(t, "..", "-name ..", "-name .*")
	fit(t, "a/.b", "-name *", "-name *b", "-name ?b", "-name [.]b")
	fit(t, "a/*", "-name \\*", "-name [*]")
	miss(t, "a/b", "-name \\*")
	fit(t, "a/[", "-name [", "-name \\[")
	fit(t, "a/\\", "-name \\", "-name \\\\")
	fit(t, "x/-print", "-name -print", "-name -*")
	fit(t, "x/é\xff", "-name é?", "-name ???")
}

// P20.2: -iname likewise, with letters of either case.
func TestIname(t *testing.T) {
	fit(t, "/A/b.C", "-iname b.c", "-iname B.C", "-iname [A-B].c", "-iname *.c", "-iname [[:upper:]].C", "-iname ?.c")
	miss(t, "/A/b.C", "-iname a", "-iname /a/b.c", "-iname *a*", "-iname B", "-iname [!b]*", "-iname ")
	fit(t, "/", "-iname /")
	fit(t, "AB/", "-iname ab", "-iname aB")
	miss(t, "/a/é", "-iname É")
}

// P20.2: -path looks at the whole path, as it stands.
func TestPath(t *testing.T) {
	fit(t, "/a/b.c", "-path /a/b.c", "-path *", "-path /*", "-path */b.c", "-path *c", "-path /a?b.c", "-path /?/b*", "-path [/]a[/]b.c", "-path /[!b]/*", "-path *a*b*", "-path \\/a/b\\.c")
	miss(t, "/a/b.c", "-path b.c", "-path a/b.c", "-path /A/b.c", "-path /a", "-path /a/", "-path /a/b.c/", "-path ", "-path ?", "-path *a", "-path //a/b.c", "-path /a/./b.c", "-path ./a/b.c")
	fit(t, "a/", "-path a/", "-path ??")
	miss(t, "a/", "-path a")
	fit(t, "", "-path ", "-path *")
	miss(t, "", "-path .", "-path ?")
	fit(t, "./a/.b", "-path ./a/*", "-path *b", "-path ?/a/?b", "-path *")
	fit(t, "//", "-path //")
	miss(t, "//", "-path /")
}

// P20.2: -ipath likewise, with letters of either case.
func TestIpath(t *testing.T) {
	fit(t, "/A/b.C", "-ipath /a/b.c", "-ipath /A/B.C", "-ipath */B*", "-ipath /[a-c]/*", "-ipath *")
	miss(t, "/A/b.C", "-ipath b.c", "-ipath /b/*", "-ipath /a", "-ipath ", "-ipath /a/b.c/")
	miss(t, "/A", "-path /a", "-name a")
}

// P20.2: -true and -false.
func TestTrueAndFalse(t *testing.T) {
	fit(t, "a", "-true", "! -false", "-true -true", "-false -o -true", "-false , -true")
	miss(t, "a", "-false", "! -true", "-true -false", "-false -true", "-true , -false", "-false -o -false")
	refuseAll(t, "-true 1", "-false 0", "-true true")
}
