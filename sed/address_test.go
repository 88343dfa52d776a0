package sed_test

import (
	"testing"

	"tinsel/api"
	"tinsel/sed"
)

// P19.1: addresses are numbers, $ and patterns; one, or two with a comma.
func TestAddresses(t *testing.T) {
	for _, one := range list("1", "$", "/a/", "7", "999999999999999999", "/a b/", "/;/", "/}/", "/!/", "/\\//", "/,/") {
		reads(t, [2]string{one + "p", one + "p"}, [2]string{" \t" + one + " \tp", one + "p"}, [2]string{one + "!p", one + "!p"}, [2]string{one + " ! p", one + "!p"}, [2]string{one + "{p}", one + "{\np\n}"})
		for _, other := range list("2", "$", "/b/", "1", "/,/") {
			two := one + "," + other
			reads(t, [2]string{two + "p", two + "p"}, [2]string{two + "\t!\t=", two + "!="}, [2]string{two + "ax", two + "ax"}, [2]string{two + "s,a,b,", two + "s,a,b,"})
			allRead(t, script1, two, two+"!", one+" ,"+other+"p", one+", "+other+"p", two+",3p", one+",,"+other+"p", one+"!,"+other+"p", two+"!!p", two+"! !p", two+",p")
		}
		allRead(t, script1, one, one+"!", one+"! ;", one+",p", one+",", one+",!p", ","+one+"p", one+" "+one+"p", one+"$p", one+"!!p", one+"!"+one+"p", one+"\np", one+"!\np", one+",\n2p")
	}
	allRead(t, script1, "!", "!!p", "! ! p", ",p", ",,p", "$$p", "-1p", "+1p", "1-2p", "1~2p", "1,+1p", "\\,a,p", "/a/I p", "1,-1p", ".p", "^p", "1.p", "!1p")
	reads(t, [2]string{"!p", "!p"}, [2]string{" ! p", "!p"}, [2]string{"!{!p}", "!{\n!p\n}"})
}

// P19.1: numbers are from 1 to MaxNumber, and told without noughts ahead.
func TestNumbersOfLines(t *testing.T) {
	reads(t,
		[2]string{"01p", "1p"}, [2]string{"007,0000008p", "7,8p"}, [2]string{times(4000, "0") + "1p", "1p"}, [2]string{"0999999999999999999p", "999999999999999999p"},
		[2]string{"1,00010!p", "1,10!p"}, [2]string{"10p", "10p"}, [2]string{"/0/,0100p", "/0/,100p"},
	)
	for _, n := range list("0", "00", times(4000, "0"), "1000000000000000000", "9223372036854775807", "9223372036854775808", "18446744073709551617", "0001000000000000000000", times(4000, "9"), times(100, "7")) {
		allRead(t, script1, n+"p", "1,"+n+"p", n+",1p", "$,"+n+"!p", "/a/,"+n+"p")
		allRead(t, script2, "\n"+n+"p", "p\n3,"+n+"p")
	}
}

// P19.1: patterns are told as they were given; none is empty, and none goes on behind a line feed.
func TestPatternsOfAddresses(t *testing.T) {
	for _, s := range list("/a\\/b/p", "/\\//p", "/[a]/p", "/\\(a\\)*/p", "/^$/p", "/a\\.b/p", "/\\\\/p", "/\\\\\\//p", "/a;b}c d,/p", "/ /p", "/\xff\x00/p") {
		reads(t, [2]string{s, s})
	}
	allRead(t, script1, "//p", "1,//p", "//,1p", "/", "/a", "/a\\/", "/a\\", "/a\np", "/a\n/p", "/\n/p", "/a\\\n/p", "/[/]/p", "/\\\\/\\/p", "1,/a", "/a/,/b", "/ap;p/\n//p")
	allRead(t, script2, "p\n//p", "\n/a\n/p")
	allRead(t, regex1, "/\\(/p", "/a\\)/p", "/[/p", "/[b-a]/p", "/\\d/p", "/\\n/p", "/\\(a\\)\\1/p", "1,/\\(/p", "/a/,/[/p", "/[/,/a/p", "p;/a\\{2,1\\}/p", "/\\/\\(/p", "/x/,$p;$,/\\(/p")
	allRead(t, regex2, "p\n/\\(/p", "/a/p\n1,/[/p;k")
}

// P19.1: patterns are basic ones, or extended.
func TestBasicAndExtended(t *testing.T) {
	for _, v := range []struct{ script, basic, extended string }{
		{"/(/p", "/(/p\n", regex1}, {"/a+/p", "/a+/p\n", "/a+/p\n"}, {"/+/p", "/+/p\n", regex1}, {"/\\(a\\)/p", "/\\(a\\)/p\n", "/\\(a\\)/p\n"}, {"/\\(/p", regex1, "/\\(/p\n"},
		{"1,/(/p", "1,/(/p\n", regex1}, {"s/(a)/\\1/", regex1, "s/(a)/\\1/\n"}, {"s/\\(a\\)/\\1/", "s/\\(a\\)/\\1/\n", regex1}, {"s/(/x/", "s/(/x/\n", regex1}, {"s/a{2/x/", "s/a{2/x/\n", regex1},
	} {
		told(t, v.script, read(v.script, false), v.basic)
		told(t, v.script+", extended", read(v.script, true), v.extended)
	}
	const in = "a\nb\na|b+\n"
	for _, v := range []struct{ script, basic, extended string }{
		{"/a|b/d", "a\nb\n", ""}, {"/b+/d", "a\nb\n", "a\n"}, {"/a|b/,/+/d", "a\nb\n", regex1}, {"s/a|b/x/", "a\nb\nx+\n", "x\nx\nx|b+\n"}, {"s/b+/x/", "a\nb\na|x\n", "a\nx\na|x+\n"},
		{"s/(.)/<\\1>/", regex1, "<a>\n<b>\n<a>|b+\n"}, {"s/\\(.\\)/<\\1>/", "<a>\n<b>\n<a>|b+\n", regex1}, {"s/A|b/x/i2", in, "a\nb\na|x+\n"},
	} {
		told(t, v.script, doneOn(v.script, in, false), v.basic)
		told(t, v.script+", extended", doneOn(v.script, in, true), v.extended)
	}
}

// doneOn: what a script makes of an input, or what is wrong with it.
func doneOn(script, in string, extended bool) string {
	p, line, e := sed.Parse(script, extended)
	if e != api.OK {
		return flawed(line, e)
	}
	return ran(p, in, false)
}

// P19.2: a command without an address is done on each line, with one where it fits.
func TestOneAddress(t *testing.T) {
	in := "one\ntwo\nthree\n"
	hushed(t, in,
		[2]string{"p", in}, [2]string{"!p", ""}, [2]string{"1p", "one\n"}, [2]string{"2p", "two\n"}, [2]string{"3p", "three\n"}, [2]string{"4p", ""}, [2]string{"999999999999999999p", ""},
		[2]string{"002p", "two\n"}, [2]string{"$p", "three\n"}, [2]string{"$!p", "one\ntwo\n"}, [2]string{"2!p", "one\nthree\n"}, [2]string{"9!p", in}, [2]string{"1!p;$p", "two\nthree\nthree\n"},
		[2]string{"/t/p", "two\nthree\n"}, [2]string{"/o/!p", "three\n"}, [2]string{"/^t.*e$/p", "three\n"}, [2]string{"/T/p", ""}, [2]string{"/x*/p", in}, [2]string{"/e$/p", "one\nthree\n"},
	)
	hushed(t, "a/b\na\\b\na;}b\n", [2]string{"/a\\/b/p", "a/b\n"}, [2]string{"/\\//p", "a/b\n"}, [2]string{"/\\\\/p", "a\\b\n"}, [2]string{"/;}/p", "a;}b\n"}, [2]string{"/\\\\\\//p", ""}, [2]string{"/[\\/]/p", "a/b\n"})
	hushed(t, "a", [2]string{"1=", "1\n"}, [2]string{"$=", "1\n"}, [2]string{"2=", ""}, [2]string{"1!=", ""}, [2]string{"$!=", ""})
	hushed(t, "", [2]string{"=", ""}, [2]string{"$=", ""}, [2]string{"!p", ""}, [2]string{"0001=", ""})
}

// P19.2: a pattern is looked for in the pattern space as it is then.
func TestPatternsAndTheSpace(t *testing.T) {
	tells(t, "a\nb\n", [2]string{"s/a/b/;/b/s/$/!/", "b!\nb!\n"}, [2]string{"/a/s/a/b/;/a/d", "b\nb\n"}, [2]string{"N;/a.b/s/^/</", "<a\nb\n"}, [2]string{"/a/s/.*//;/./!d", "b\n"}, [2]string{"x;/a/p", "\na\na\n"})
	tells(t, "a\nb\nc\n", [2]string{"N;2=", "2\na\nb\nc\n"}, [2]string{"n;2=;1=", "a\n2\nb\nc\n"}, [2]string{"N;N;$=", "3\na\nb\nc\n"}, [2]string{"$!N;1=", "a\nb\nc\n"})
}

// P19.2: a range goes from a line that the first one fits to one that the second one fits.
func TestRanges(t *testing.T) {
	in := "a\nb\nc\nd\ne\n"
	hushed(t, in,
		[2]string{"2,4p", "b\nc\nd\n"}, [2]string{"1,5p", in}, [2]string{"2,3!p", "a\nd\ne\n"}, [2]string{"1,$p", in}, [2]string{"4,$p", "d\ne\n"}, [2]string{"$,$p", "e\n"}, [2]string{"5,6p", "e\n"}, [2]string{"6,7p", ""},
		[2]string{"3,9p", "c\nd\ne\n"}, [2]string{"4,999999999999999999p", "d\ne\n"}, [2]string{"$,1p", "e\n"}, [2]string{"$,99p", "e\n"}, [2]string{"1,$!p", ""},
		[2]string{"/b/,/d/p", "b\nc\nd\n"}, [2]string{"/b/,4p", "b\nc\nd\n"}, [2]string{"2,/d/p", "b\nc\nd\n"}, [2]string{"/c/,$p", "c\nd\ne\n"}, [2]string{"/d/,/x/p", "d\ne\n"}, [2]string{"/x/,/d/p", ""},
	)
	// A number that is not above: that line alone.
	hushed(t, in, [2]string{"3,3p", "c\n"}, [2]string{"3,2p", "c\n"}, [2]string{"3,1p", "c\n"}, [2]string{"/c/,3p", "c\n"}, [2]string{"/c/,1p", "c\n"}, [2]string{"/[bd]/,2p", "b\nd\n"}, [2]string{"/[bd]/,1!p", "a\nc\ne\n"}, [2]string{"/./,3p", in}, [2]string{"/./,1p", in})
	// The second one is looked at from the next line on.
	hushed(t, in, [2]string{"/b/,/b/p", "b\nc\nd\ne\n"}, [2]string{"2,/[bd]/p", "b\nc\nd\n"}, [2]string{"/./,/./p", in}, [2]string{"1,/a/p", in}, [2]string{"/[ac]/,/[ac]/p", "a\nb\nc\n"}, [2]string{"2,/./p", "b\nc\n"})
	// Then anew.
	hushed(t, "a\nx\nb\nx\na\nx\nb\nx\na\nx\n", [2]string{"/a/,/b/p", "a\nx\nb\na\nx\nb\na\nx\n"}, [2]string{"/a/,/x/p", "a\nx\na\nx\na\nx\n"}, [2]string{"/a/,/b/!p", "x\nx\n"}, [2]string{"/a/,2p", "a\nx\na\na\n"}, [2]string{"/b/,/b/p", "b\nx\na\nx\nb\n"}, [2]string{"3,/a/p", "b\nx\na\n"}, [2]string{"/[ab]/,/[ab]/=", "1\n2\n3\n5\n6\n7\n9\n10\n"})
	hushed(t, "a", [2]string{"1,3=", "1\n"}, [2]string{"1,1=", "1\n"}, [2]string{"/a/,/a/=", "1\n"}, [2]string{"$,$=", "1\n"})
}

// P19.2: each command has a range of its own, and each run begins anew.
func TestRangesOfTheirOwn(t *testing.T) {
	in := "a\nb\nc\n"
	hushed(t, in, [2]string{"1,/b/p;/a/,2=", "a\n1\nb\n2\n"}, [2]string{"/a/,/c/p;/a/,/c/!p", in}, [2]string{"/a/,/b/{/b/,/c/=;p}", "a\n2\nb\n"})
	p := parsed(t, "/a/,/x/p")
	for range 3 {
		told(t, "a, then none", ran(p, "a\nb\n", true), "a\nb\n")
		told(t, "without an a", ran(p, "b\nc\n", true), "")
	}
	// A range is looked at only where its command is.
	hushed(t, "a\nb\na\nc\nd\n", [2]string{"1,2b;/a/,/c/p", "a\nc\n"}, [2]string{"1!{/a/,/c/p}", "a\nc\n"}, [2]string{"/b/d;/a/,/b/p", "a\na\nc\nd\n"}, [2]string{"N;/b/,/d/=", "2\n4\n"})
}

// P19.2: ! turns what fits.
func TestNot(t *testing.T) {
	tells(t, "a\nb\nc\n", [2]string{"!d", "a\nb\nc\n"}, [2]string{"$!d", "c\n"}, [2]string{"2!{s/^/-/;s/$/-/}", "-a-\nb\n-c-\n"}, [2]string{"/b/!{/a/!d}", "a\nb\n"}, [2]string{"2,3!s/$/!/", "a!\nb\nc\n"}, [2]string{"1!{$!d}", "a\nc\n"}, [2]string{"!{p}", "a\nb\nc\n"})
}
