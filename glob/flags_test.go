package glob_test

import (
	"strings"
	"testing"
)

// P12.1: with GlobPath a / is matched by itself alone.
func TestPath(t *testing.T) {
	tells(t, "?", path, without("/"))
	tells(t, "*", path, without("/"))
	tells(t, "[!a]", path, without("/a"))
	tells(t, "[^a]", path, without("/a"))
	tells(t, "[/]", path, "")
	tells(t, "[a/]", path, "a")
	tells(t, "[.-0]", path, ".0")
	tells(t, "[[:punct:]]", path, strings.ReplaceAll(classes()["punct"], "/", ""))
	tells(t, "[\\/]", path, "")
	tells(t, "/", path, "/")
	tells(t, "\\/", path, "/")
	matches(t, "*", path, "", "a", "abc", ".a", "\\")
	misses(t, "*", path, "/", "a/b", "a/", "/a", "//")
	matches(t, "*/*", path, "a/b", "/", "/a", "a/", ".a/.b")
	misses(t, "*/*", path, "", "a", "a/b/c", "//", "a/b/")
	matches(t, "*a*", path, "a", "bab")
	misses(t, "*a*", path, "/a", "a/", "b/a/b")
	matches(t, "a/*b", path, "a/b", "a/xb", "a/bb")
	misses(t, "a/*b", path, "a/x/b", "ab", "a/b/b", "a/")
	matches(t, "*a/*a*", path, "a/a", "xa/yay", "aa/aa")
	misses(t, "*a/*a*", path, "a/a/a", "ab/a", "a/b/a")
	matches(t, "a[/]b", 0, "a/b")
	misses(t, "a[/]b", path, "a/b", "a[/]b")
	matches(t, "*[/", path, "a[/", "[/")
	matches(t, "[a/b]", path, "a", "b") // a slash does not end a bracket
}

// P12.1: with GlobPeriod a . at the beginning is matched by itself alone.
func TestPeriod(t *testing.T) {
	tells(t, "?", period, without("."))
	tells(t, "*", period, without("."))
	tells(t, "[!a]", period, without(".a"))
	tells(t, "[.]", period, "")
	tells(t, "[\\.]", period, "")
	tells(t, "[--/]", period, "-/")
	tells(t, "[[:punct:]]", period, strings.ReplaceAll(classes()["punct"], ".", ""))
	tells(t, ".", period, ".")
	tells(t, "\\.", period, ".")
	matches(t, "*", period, "", "a", "a.", "a.b", "a/.b", "/.a")
	misses(t, "*", period, ".a", ".", "..", ".a/b")
	misses(t, "[.]a", period, ".a")
	misses(t, "?a", period, ".a")
	misses(t, "*a", period, ".a", "..a")
	misses(t, "**", period, ".", ".a")
	misses(t, "[!x]*", period, ".a")
	matches(t, ".*", period, ".", ".a", "..", "..a")
	matches(t, "\\.*", period, ".", ".a", "..")
	matches(t, "a*", period, "a.b", "a.", "a..")
	matches(t, "a?b", period, "a.b")
	matches(t, "a[.]b", period, "a.b")
	matches(t, ".?", period, "..", ".a")
	matches(t, ".[.]", period, "..")
	matches(t, "*.a", period, ".a", "b.a", "b..a") // the star takes nothing, the . is matched by .
	misses(t, "*.a", period, "..a")
	matches(t, "*.*", period, ".a", "a.b", "..", ".")
	misses(t, "*?.a", period, "..a", ".a")
	misses(t, "\\.a", period|plain, ".a")
	matches(t, "\\.a", period|plain, "\\.a")
	matches(t, "", period, "")
}

// P12.1: without GlobPath a . behind a / is a byte like others, with it it is not.
func TestPeriodBehindSlash(t *testing.T) {
	for _, s := range []string{"a/.b", "/.b", "//.b"} {
		head := strings.TrimSuffix(s, ".b")
		for _, tail := range []string{"*", "?b", "[.]b", "[!a]b", "?*", "*b", "[.-/]*", "[[:punct:]]b"} {
			matches(t, head+tail, period, s)
			matches(t, head+tail, path, s)
			misses(t, head+tail, period|path, s)
		}
		for _, tail := range []string{".b", "\\.b", ".*", ".?", "\\.[b]", "*.b", "**.*"} {
			matches(t, head+tail, period, s)
			matches(t, head+tail, path, s)
			matches(t, head+tail, period|path, s)
		}
	}
	matches(t, "*", period, "a/.b", "/.", "a/./.b")
	misses(t, "*/*", period|path, "a/.b", ".a/b", ".a/.b", "/.", "./")
	matches(t, "*/*", period|path, "a/b", "a./b.", "a.b/c.d", "/")
	matches(t, "*/.*", period|path, "a/.b", "a/.", "a/..")
	misses(t, "*/.*", period|path, ".a/.b", "a/b", "/a.")
	matches(t, ".*/.*", period|path, ".a/.b", "./.", "../..")
	misses(t, "*[/].*", period|path, "a/.b")
	misses(t, "*/?*", period|path, "a/.", "a/.b")
	matches(t, "*/*/*", period|path, "a/b/c", "//")
	misses(t, "*/*/*", period|path, "a/b/.c", "a/.b/c", ".a/b/c")
}

// P12.1: with GlobFold letters match in both cases, other bytes do not.
func TestFold(t *testing.T) {
	for c := range 256 {
		s := string([]byte{byte(c)})
		both := s
		if 'a' <= c && c <= 'z' || 'A' <= c && c <= 'Z' {
			both = string([]byte{byte(c) &^ 32, byte(c) | 32})
		}
		if s != "*" && s != "?" {
			tells(t, s, fold, both)
		}
		tells(t, "\\"+s, fold, both)
		if !strings.Contains("[]!^-\\:", s) {
			tells(t, "["+s+"]", fold, both)
			tells(t, "[!"+s+"]", fold, without(both))
			tells(t, "["+s+"-"+s+"]", fold, both)
		}
		tells(t, "[\\"+s+"]", fold, both)
	}
	matches(t, "A[b-c]", fold, "aC", "ab", "AB", "AC")
	misses(t, "A[b-c]", 0, "aC", "AC", "aB")
	matches(t, "a*B?", fold, "AxbC", "abc", "ABB")
	misses(t, "a*B?", fold, "AxcC", "ab")
	matches(t, "*é", fold, "é", "Éé")
	misses(t, "é", fold, "É", "\xe3\xa9")
	misses(t, "@[`{", fold, "`{@[")
}

// P12.1: GlobFold in ranges and classes: each letter of them in both cases.
func TestFoldInBrackets(t *testing.T) {
	tells(t, "[a-c]", fold, "ABCabc")
	tells(t, "[A-C]", fold, "ABCabc")
	tells(t, "[!a-c]", fold, without("ABCabc"))
	tells(t, "[c-a]", fold, "")
	tells(t, "[C-a]", fold, "A"+span('C', 'a')+span('c', 'z'))
	tells(t, "[Z-a]", fold, "AZ[\\]^_`az")
	tells(t, "[b-A]", fold, "")
	tells(t, "[^-b]", fold, without("-Bb"))
	tells(t, "[\\^-b]", fold, "AB^_`ab")
	tells(t, "[@-B]", fold, "@ABab")
	tells(t, "[[:upper:]]", fold, classes()["alpha"])
	tells(t, "[[:lower:]]", fold, classes()["alpha"])
	tells(t, "[![:lower:]]", fold, without(classes()["alpha"]))
	for _, name := range strings.Fields("alnum alpha blank cntrl digit graph print punct space xdigit") {
		tells(t, "[[:"+name+":]]", fold, classes()[name])
		tells(t, "[![:"+name+":]]", fold, without(classes()[name]))
	}
	tells(t, "[[:digit:]a]", fold, "0123456789Aa")
	matches(t, "[[:DIGIT:]]", fold, "d]", "D]", ":]") // names of classes are as they are
	misses(t, "[[:DIGIT:]]", fold, "7", "7]")
}

// P12.1: all flags at once.
func TestAllFlags(t *testing.T) {
	const all = path | period | plain | fold
	matches(t, "*/A\\*[B-C]", all, "x/a\\yyb", "/A\\C", "x.y/a\\.c")
	misses(t, "*/A\\*[B-C]", all, ".x/a\\yyb", "x/y/a\\b", "x/a*b", "x/a\\y/b", "x/a\\d")
	matches(t, ".[\\]*", all, ".\\", ".\\A")
	misses(t, ".[\\]*", all, ".", "\\", ".a", ".\\/")
	tells(t, "?", all, without("./"))
	tells(t, "*", all, without("./"))
	tells(t, "[!a]", all, without("./Aa"))
	tells(t, "[\\a]", all, "A\\a")
	tells(t, "[+-9]", all, "+,-0123456789")
	matches(t, "*/.*", all, "a/.b", "/.")
	misses(t, "*/*", all, "a/.b", ".a/b")
}
