package regex_test

import (
	"strings"
	"testing"
)

// kinds: both kinds of patterns; brackets are the same in both.
var kinds = []int{basic, extended}

// P13.1: the bytes of a bracket's items, and the others.
func TestBrackets(t *testing.T) {
	for p, want := range map[string]string{
		"[a]": "a", "[abc]": "abc", "[cba]": "abc", "[aab]": "ab",
		"[^a]": without("a"), "[^a-c]": without("abc"), "[a^]": "^a", "[^^]": without("^"), "[^^a]": without("^a"), "[a^b]": "^ab",
		"[]a]": "]a", "[]]": "]", "[^]a]": without("]a"), "[^]]": without("]"), "[][]": "[]", "[]^]": "]^", "[^]^]": without("]^"), "[][a]": "[]a",
		"[[]": "[", "[[a]": "[a", "[a[]": "[a", "[[[]": "[", "[^[]": without("["),
		"[.]": ".", "[*]": "*", "[$]": "$", "[a$]": "$a", "[.*$]": "$*.", "[(|)+?{}]": "()+?{|}", "[/]": "/", "[!a]": "!a", "[,]": ",",
		"[\\]": "\\", "[\\a]": "\\a", "[\\n]": "\\n", "[a\\]": "\\a", "[^\\]": without("\\"), "[\\\\]": "\\", "[\\^]": "\\^", "[\\.]": ".\\",
		"[:]": ":", "[:a]": ":a", "[a:]": ":a", "[=]": "=", "[=a=]": "=a", "[.a.]": ".a", "[:alpha:]": ":ahlp", "[:.=]": ".:=",
		"[\x00\xff\x80]": "\x00\x80\xff", "[^\x00]": without("\x00"), "[\n]": "\n", "[ \t]": "\t ", "[é]": "\xa9\xc3",
	} {
		for _, kind := range kinds {
			tells(t, p, kind, want)
			whole(t, "x"+p+"y", kind, "x"+want[:1]+"y", "x"+want[len(want)-1:]+"y")
			misses(t, p+p, kind, "", want[:1])
		}
	}
	only(t, "[a]]", basic, []string{"a]", "a", "]", "]]"}, "a]")
	only(t, "[]]]", extended, []string{"]]", "]", "a]"}, "]]")
	only(t, "[ab][ab]*[^ab]", basic, everyText("abc", 3), "ac", "bc", "aac", "abc", "bac", "bbc")
	only(t, "([ab]|c)[c]", extended, everyText("abc", 2), "ac", "bc", "cc")
	finds(t, "[]a-]*", basic, "x]-a", 0, 0)
	finds(t, "[]a-]+", extended, "x]-a", 1, 4)
}

// P13.1: ranges, of one byte or more; those that fall are none.
func TestRanges(t *testing.T) {
	for p, want := range map[string]string{
		"[a-c]": "abc", "[a-a]": "a", "[a-cx-z]": "abcxyz", "[xa-cy]": "abcxy", "[^a-c]": without("abc"),
		"[\x00-\xff]": span(0, 255), "[^\x00-\xff]": "", "[\x80-\xff]": span(128, 255), "[\x7f-\x80]": "\x7f\x80", "[\x00-\x00]": "\x00", "[\xff-\xff]": "\xff",
		"[Z-a]": "Z[\\]^_`a", "[A-[]": span('A', '['), "[[-a]": span('[', 'a'), "[]-a]": "]^_`a", "[^]-a]": without("]^_`a"),
		"[A-\\]": span('A', '\\'), "[\\-a]": "\\]^_`a", "[!-/]": span('!', '/'), "[ -~]": span(' ', '~'), "[^--/]": without("-./"), "[+-9]": span('+', '9'), "[a-c-]": "-abc",
	} {
		for _, kind := range kinds {
			tells(t, p, kind, want)
		}
	}
	only(t, "[[-]]", basic, []string{"[]", "-]", "[", "-", "]"}, "[]", "-]")
	for lo := range 256 {
		for hi := range 256 {
			p := "[x" + string([]byte{byte(lo), '-', byte(hi)}) + "]"
			switch {
			case hi == ']', lo == ']', lo == '-': // other things are meant there
			case hi < lo:
				bad(t, basic, p)
			default:
				r := must(t, p, extended)
				for _, c := range []int{lo - 1, lo, hi, hi + 1} {
					if c >= 0 && c <= 255 && r.Whole(string([]byte{byte(c)})) != (c == 'x' || lo <= c && c <= hi) {
						t.Fatalf("%q and byte %d", p, c)
					}
				}
			}
		}
	}
	for _, kind := range kinds {
		bad(t, kind, "[b-a]", "[^b-a]", "[\xff-\x00]", "[ac-b]", "[a-cz-y]", "[a-Z]", "[a--]", "[a-\\]", "[z-a-]", "[]-[]", "[b-a")
	}
}

// P13.1: a - is a byte if it is the first or the last one, or a range's end.
func TestDashes(t *testing.T) {
	for p, want := range map[string]string{
		"[-]": "-", "[--]": "-", "[---]": "-", "[^-]": without("-"), "[^--]": without("-"), "[-a]": "-a", "[a-]": "-a", "[^-a]": without("-a"), "[^a-]": without("-a"),
		"[-a-c]": "-abc", "[a-c-]": "-abc", "[ab-]": "-ab", "[-ab]": "-ab", "[--/]": "-./", "[+--]": "+,-", "[+--/]": "+,-/", "[a-c--/]": "-./abc", "[-a-]": "-a", "[]-]": "-]", "[^]-]": without("-]"), "[]a-]": "-]a", "[[:digit:]-]": "-0123456789", "[-[:digit:]]": "-0123456789",
	} {
		for _, kind := range kinds {
			tells(t, p, kind, want)
		}
	}
	only(t, "[-]]", basic, []string{"-]", "-", "]"}, "-]")
	only(t, "[a-]]", basic, []string{"-]", "a]", "a", "]"}, "-]", "a]")
	for _, kind := range kinds {
		bad(t, kind, "[a-c-e]", "[^a-c-e]", "[a-c-e-g]", "[--/-a]")
	}
}

// classes: the bytes of each class, written out.
func classes() map[string]string {
	upper, lower, digit := "ABCDEFGHIJKLMNOPQRSTUVWXYZ", "abcdefghijklmnopqrstuvwxyz", "0123456789"
	return map[string]string{
		"upper": upper, "lower": lower, "digit": digit,
		"alpha": upper + lower, "alnum": digit + upper + lower, "xdigit": digit + "ABCDEFabcdef",
		"space": "\t\n\v\f\r ", "blank": "\t ",
		"punct": "!\"#$%&'()*+,-./:;<=>?@[\\]^_`{|}~",
		"graph": span(33, 126), "print": span(32, 126), "cntrl": span(0, 31) + "\x7f",
	}
}

// P13.1: the classes, and what is none.
func TestClasses(t *testing.T) {
	if len(classes()) != 12 {
		t.Fatal(len(classes()))
	}
	for name, want := range classes() {
		for _, kind := range kinds {
			tells(t, "[[:"+name+":]]", kind, want)
			tells(t, "[^[:"+name+":]]", kind, without(want))
			tells(t, "[\x80[:"+name+":]\xff]", kind, want+"\x80\xff")
			tells(t, "[[:"+name+":][:"+name+":]]", kind, want)
			bad(t, kind, "[[:"+name+":]-z]", "[[:"+name+":]-\xff]", "[[:"+name+":]--z]", "[!-[:"+name+":]]", "[\x00-[:"+name+":]]", "[[:"+name+":]-[:"+name+":]]", "[[:"+name+":]", "[[:"+name+":", "[[:"+name+"]]", "[[:"+name+"]", "[[:"+strings.ToUpper(name)+":]]", "[[:"+name+" :]]", "[[:"+name+"x:]]", "[[:"+name[:4]+":]]")
		}
	}
	for _, kind := range kinds {
		tells(t, "[[:digit:][:blank:]]", kind, "\t 0123456789")
		tells(t, "[][:digit:]]", kind, "0123456789]")
		tells(t, "[^][:digit:]a-c]", kind, without("0123456789]abc"))
		bad(t, kind, "[[:x:]]", "[[::]]", "[[:nope:]]", "[a[:nope:]]", "[[:", "[[:]", "[[:]]", "[a[:]", "[[:digit:][:x:]]", "[[:\xff:]]", "[[:word:]]", "[[:ascii:]]", "[^[:x:]]")
	}
}

// P13.1: [. and [= are none, wherever they stand in a bracket.
func TestNoCollation(t *testing.T) {
	for _, kind := range kinds {
		for _, c := range []string{".", "="} {
			bad(t, kind, "[["+c+"a"+c+"]]", "[["+c+"]", "[["+c+"]]", "[["+c+"-"+c+"]]", "[a["+c+"]", "[a["+c+"b"+c+"]c]", "[^["+c+"a"+c+"]]", "[!-["+c+"a"+c+"]]", "[\x00-["+c+"]", "[["+c+"a"+c+"]-z]", "[["+c, "[]["+c+"]")
			tells(t, "["+c+"[]", kind, c+"[")
			tells(t, "["+c+"]", kind, c)
		}
	}
}

// P13.1: a bracket that is not closed.
func TestNotClosed(t *testing.T) {
	for _, kind := range kinds {
		bad(t, kind, "[", "[a", "[^", "[]", "[^]", "[]a", "[^]a", "[a-", "[a-z", "[-", "[--", "[\\", "[[", "[[a", "a[", "[a][", "[a]b[c", "[^^", "[a\\", "[[:digit:]", "[[:digit:]a", "[]-", "[]-a", "x*[", "[a\x00")
	}
	bad(t, extended, "([)", "([)]", "[a|b", "(a|[b)")
	bad(t, basic, "\\([\\)", "\\([a\\)")
	good(t, extended, "([)])", "[(]", "[)]", "[a|b]", "[(]|[)]", "[{]", "[*]*")
	good(t, basic, "\\([\\)]\\)", "[\\(]", "[*]", "[\\]")
}

// P13.1: fold in bytes, ranges, classes and brackets with ^.
func TestFold(t *testing.T) {
	for _, kind := range []int{basic | fold, extended | fold} {
		for _, c := range each() {
			want := c
			if 'a' <= c[0] && c[0] <= 'z' || 'A' <= c[0] && c[0] <= 'Z' {
				want = string([]byte{c[0] &^ 32, c[0] | 32})
			}
			if !strings.Contains(".[\\*^$/()|+?{", c) {
				tells(t, c, kind, want)
			}
			if c != "^" {
				tells(t, "["+c+"]", kind, want)
				tells(t, "[^"+c+"]", kind, without(want))
			}
		}
		tells(t, "[^^]", kind, without("^"))
		tells(t, "\\/", kind, "/")
		tells(t, ".", kind, span(0, 255))
		tells(t, "[b-d]", kind, "BCDbcd")
		tells(t, "[B-D]", kind, "BCDbcd")
		tells(t, "[^b-d]", kind, without("BCDbcd"))
		tells(t, "[Z-a]", kind, "AZ[\\]^_`az")
		tells(t, "[Y-b]", kind, "ABYZ[\\]^_`abyz")
		tells(t, "[bZ]", kind, "BZbz")
		tells(t, "[^aB]", kind, without("ABab"))
		letters := classes()["alpha"]
		tells(t, "[[:upper:]]", kind, letters)
		tells(t, "[[:lower:]]", kind, letters)
		tells(t, "[^[:upper:]]", kind, without(letters))
		tells(t, "[^[:lower:]]", kind, without(letters))
		tells(t, "[[:digit:]]", kind, "0123456789")
		tells(t, "[[:xdigit:]]", kind, "0123456789ABCDEFabcdef")
		tells(t, "[@-[]", kind, span('@', '[')+span('a', 'z'))
		tells(t, "[`-{]", kind, span('A', 'Z')+span('`', '{'))
		tells(t, "[\xc0-\xff]", kind, span(0xc0, 0xff))
		bad(t, kind, "[b-A]", "[a-Z]", "[[:UPPER:]]")
		finds(t, "aBc", kind, "xAbC", 1, 4)
		misses(t, "aBc", kind, "xAb", "@bc", "\xe1Bc")
	}
	finds(t, "(A|b)*C", extended|fold, "aBBc", 0, 4, 2, 3)
	misses(t, "a", basic, "A")
	misses(t, "[a-z]", extended, "ABC")
	misses(t, "[[:upper:]]", extended, "abc")
}

// P13.1: bytes 0 and from 128 on are bytes like others.
func TestOddBytes(t *testing.T) {
	for _, kind := range kinds {
		finds(t, "\x00", kind, "a\x00b", 1, 2)
		finds(t, "a\x00b", kind, "a\x00b", 0, 3)
		misses(t, "a\x00b", kind, "ab", "a", "a\x00")
		finds(t, "\xff*", kind, "\xff\xffa", 0, 2)
		finds(t, "é*x", kind, "é\xa9\xa9x", 0, 5)
		finds(t, ".", kind, "é", 0, 1)
		finds(t, "^..$", kind, "é", 0, 2)
		finds(t, ".*", kind, "a\n\x00\xffé", 0, 6)
		finds(t, "[^a]*", kind, "\n\x00\x80", 0, 3)
		finds(t, "a$", kind, "a\na", 2, 3)
		misses(t, "^b", kind, "a\nb")
		misses(t, "a$", kind, "a\nb")
		bad(t, kind, "\\\x00", "\\\x80", "\\\xff", "\\é", "\\\n")
	}
}
