package sed_test

import (
	"strings"
	"testing"

	"tinsel/api"
	"tinsel/sed"
)

// P19.1: what says nothing makes no command.
func TestScriptsWithoutCommands(t *testing.T) {
	for _, s := range list("", " ", "\t", "\n", ";", ";;", "\n\n", " \t ; \n\t;", times(api.MaxLine, ";"), times(api.MaxLine, "\n"), times(api.MaxLine, " ")) {
		p, line, e := sed.Parse(s, false)
		if p == nil || line != 0 || e != api.OK {
			t.Errorf("%s: %v, %d, %v", brief(s), p, line, e)
			continue
		}
		if p.Size() != 0 || len(p.Lines()) != 0 {
			t.Errorf("%s: %d, %q", brief(s), p.Size(), p.Lines())
		}
		told(t, s, ran(p, "a\nb", false), "a\nb")
		told(t, s, ran(p, "a\nb", true), "")
	}
}

// P19.1: a script has at most MaxLine bytes; of one that has more no line is told, whatever stands in it.
func TestLengthOfScripts(t *testing.T) {
	most := "a" + times(api.MaxLine-1, "x")
	reads(t, [2]string{most, most}, [2]string{"k" + most[1:], script1})
	for _, s := range list(most+"x", most+"\n", times(api.MaxLine+1, ";"), "p\n}\n"+most, "k"+most, "s/\\(/"+most, times(100000, "p\n")) {
		reads(t, [2]string{s, "error 102, line 0"})
	}
}

// P19.1: commands are parted by line feeds or ;, and blanks ahead of them say nothing.
func TestPartedCommands(t *testing.T) {
	allRead(t, "p\nd\nx", "p;d;x", "p\nd\nx", " p ;\td\t; x ", ";p;;d\n;\nx;", "\n\n p\n \nd;\n;\tx\n", "p;d;x;", "p \t;d \t\nx \t")
	allRead(t, script1, "pd", "p d", "p\td;x", "p,d", "pp", "p.", "p:a")
	allRead(t, script2, "p\npd", ";\np x\n", "p;\n;p dq")
}

// P19.1: these letters take nothing.
func TestLettersThatTakeNothing(t *testing.T) {
	for _, c := range strings.Split("= d D g G h H n N p P q x", " ") {
		allRead(t, c, c, " "+c, "\t"+c+" ", c+";", c+"\n", c+" \t;", c+"\t \n", "\n"+c)
		allRead(t, "{\n"+c+"\n}", "{"+c+"}", "{ "+c+" }", "{\n"+c+"\n}", "{;"+c+";}", "{"+c+"\t};")
		allRead(t, "3,$!"+c, "3,$!"+c, "3,$ ! "+c, "03,$\t!\t"+c+"\n")
		for _, more := range list("p", "1", "/", ",", "!", "$", " p", "\tx", "=", "{", ":", "\\", "#", "\x00", "\r", " \v;", "\xff") {
			allRead(t, script1, c+more)
			allRead(t, script2, "\n"+c+more+";")
		}
	}
}

// P19.1: no other byte is a command.
func TestOtherLetters(t *testing.T) {
	const takeNothing, takeText, others = "=dDgGhHnNpPqx", "aicbt", " \t\n;{"
	for c := range 256 {
		s := string([]byte{byte(c)})
		switch {
		case strings.Contains(takeNothing+takeText, s):
			reads(t, [2]string{s, s})
		case s == "{":
			reads(t, [2]string{s, script1}, [2]string{s + "}", "{\n}"})
		case strings.Contains(others, s):
			reads(t, [2]string{s, ""})
		default:
			allRead(t, script1, s, " "+s, s+";p", "p;"+s, "{"+s+";}", "1"+strings.TrimLeft(s, "0123456789"))
			allRead(t, script3, "p\n\n"+s, "\n;\n "+s+"\np")
		}
	}
}

// P19.1: a, i and c take the text up to the line's end, without the blanks ahead of it.
func TestLettersThatTakeText(t *testing.T) {
	for _, c := range list("a", "i", "c") {
		reads(t,
			[2]string{c, c}, [2]string{c + " ", c}, [2]string{c + "\t \t", c}, [2]string{c + "\np", c + "\np"},
			[2]string{c + "text", c + "text"}, [2]string{c + " text", c + "text"}, [2]string{c + "\t two words \t", c + "two words \t"},
			[2]string{c + ";p", c + ";p"}, [2]string{c + " ;", c + ";"}, [2]string{c + "}", c + "}"}, [2]string{c + " x;p}\np", c + "x;p}\np"},
			[2]string{"2,3!" + c + " up\nd", "2,3!" + c + "up\nd"}, [2]string{c + "\\", c + "\\"}, [2]string{c + "\\\np", c + "\\\np"},
			[2]string{c + " \r\x00\xff", c + "\r\x00\xff"}, [2]string{"{" + c + " x\n}", "{\n" + c + "x\n}"},
			[2]string{c + "a\n" + c + " b", c + "a\n" + c + "b"}, [2]string{c + " " + times(4000, "y"), c + times(4000, "y")},
			[2]string{"{" + c + " x}", script1}, [2]string{"p\n{" + c + "}", script2}, [2]string{"{" + c + ";}\n}", "{\n" + c + ";}\n}"},
		)
	}
}

// P19.1: each { has its }, which is a command, too.
func TestBraces(t *testing.T) {
	reads(t,
		[2]string{"{}", "{\n}"}, [2]string{"{;;}", "{\n}"}, [2]string{"{\n}", "{\n}"}, [2]string{" { } ", "{\n}"},
		[2]string{"{p}", "{\np\n}"}, [2]string{"2{p;d};x", "2{\np\nd\n}\nx"}, [2]string{"/a/,$!{p}", "/a/,$!{\np\n}"},
		[2]string{"{{p}}", "{\n{\np\n}\n}"}, [2]string{"{{}{}}", script1}, [2]string{"{{};{}}", "{\n{\n}\n{\n}\n}"}, [2]string{"{p\n{d\n}\n}\n", "{\np\n{\nd\n}\n}"},
		[2]string{"1{2{3{4p}}}", "1{\n2{\n3{\n4p\n}\n}\n}"}, [2]string{"{p} ; {d}", "{\np\n}\n{\nd\n}"},
	)
	allRead(t, script1, "{", "{p", "{{}", "{{p}\np", "}", "p}", "p;}", "{}}", "{p}}", "{p}p", "{p} p", "{}{}", "{}1", "{p\n{d\n}\np")
	allRead(t, script2, "\n{", "p\n}", "{\n}}", "{}\n}", "{p}\n{", "{p}\n{{\n}", "{\n}p", "{\np}q")
	allRead(t, script3, "{\n}\n{\n{\n}", "{\n}\n}", "p\n\n}\n}", "{{\n}\n}}")
	deep := api.MaxLine / 2
	told(t, "deep", read(times(deep, "{")+times(deep, "}"), false), times(deep, "{\n")+times(deep, "}\n"))
	allRead(t, script1, times(deep, "{")+times(deep-1, "}"), times(deep-1, "{")+times(deep, "}"))
}

// P19.1: labels are 1 to 20 letters and digits, and end ahead of a line feed, ; or }.
func TestLabels(t *testing.T) {
	long := "aZ09aZ09aZ09aZ09aZ09"
	for _, l := range list("a", "Z", "0", "9z", "label", long) {
		for _, c := range list("b", "t") {
			reads(t, [2]string{":" + l + ";" + c + l, ":" + l + "\n" + c + l}, [2]string{c + " \t" + l + " \t\n: " + l + "\t ", c + l + "\n:" + l},
				[2]string{"1," + "$!" + c + l + ";:\t" + l + " ;p", "1,$!" + c + l + "\n:" + l + "\np"})
		}
	}
	reads(t, [2]string{"b", "b"}, [2]string{"t;b", "t\nb"}, [2]string{"b \t", "b"}, [2]string{"t \np", "t\np"})
	reads(t, [2]string{"{:a\nba\n}", "{\n:a\nba\n}"}, [2]string{"{:a;ta;}", "{\n:a\nta\n}"}, [2]string{"ba;{:a;}", "ba\n{\n:a\n}"})
	for _, l := range list(long+"x", times(400, "a"), "a b", "a\tb", "a,", "a-b", "a_", ".", "1!", "a{", "/", "\\n", "\x00", "a\r", "\xff", "\xc3\xa4", "@", "[", "`", "/0", "a:") {
		allRead(t, script1, ":"+l, "b"+l, "t "+l, ":a;b "+l+";k", ":"+l+"\nb"+l)
	}
	allRead(t, script1, ":", ": ", ":;p", ":\na", ":}", "{:}")
	allRead(t, script2, "p\n:", "\n: \t;", ":a\nb b b", "\n:a b")
}

// P19.1: no } follows a label, or the place of one.
func TestBraceBehindLabels(t *testing.T) {
	allRead(t, script1, "{b}", "{t}", "{:a}", "{b }", "{:a;ba}", "{:a;t a }", "{:a };p", "{ba\t}\n:a", "b}", "t }", ":a}")
	allRead(t, script2, "{\nb}", ":a\n{ta}")
}

// P19.1: a label stands once.
func TestLabelsTwice(t *testing.T) {
	allRead(t, script1, ":a;:a", ":a;ba;:a", "{:a;};:a", ":a;:b;:b;k")
	allRead(t, script2, ":a\n:a", ":a\n:a\n:a", ":x\n;p;:x", "{:a;\n:a;}")
	allRead(t, script3, ":a\n:b\n:a", "ba\n:a\n:a")
	reads(t, [2]string{":a;:A;:aa", ":a\n:A\n:aa"}, [2]string{":1;:01", ":1\n:01"})
}

// P19.1: a label that a b or t asks for stands somewhere.
func TestLabelsThatAreNot(t *testing.T) {
	allRead(t, script1, "bx", "tx", "b x;:y", "bx\nty", ":xx;bx", ":x;bX", ":x;txx", "{bx;}")
	allRead(t, script2, "b\ntx", ":x\nby\nbz", "bx\nby\n:x")
	allRead(t, script3, "bx\ntx\nbX\n:x")
}

// P19.1: of commands that may not be the first one is told; then a { without }; then a label that there is not.
func TestWhichFlawIsTold(t *testing.T) {
	reads(t,
		[2]string{"p\nk\n}\ns/\\(/x/", script2}, [2]string{"p\n}\nk", script2}, [2]string{":a\n:a\nk", script2}, [2]string{"s/x/\\1/\nk", regex1},
		[2]string{"/\\(/p\n}", regex1}, [2]string{"}\n/\\(/p", script1}, [2]string{":a\ns/[/x/\n:a", regex2}, [2]string{":a;:a\ns/[/x/", script1},
		[2]string{"{\n}\n}\ns/[/x/", script3}, [2]string{"p;k;s/[/x/", script1}, [2]string{"p;s/[/x/;k", regex1}, [2]string{"s/[/x/;}", regex1},
		[2]string{"bx\n{\n}", script1}, [2]string{"bx\n{", script2}, [2]string{"bx\ny\n{", script2}, [2]string{"bx\n\n{", script3}, [2]string{"{\nbx\nk", script3},
		[2]string{"bx\n{\nby", script2}, [2]string{"{\n{\n}\nbx", script1}, [2]string{"bx\n}", script2}, [2]string{"bx\ns/\\(//", regex2}, [2]string{"bx\n0p", script2},
		[2]string{"bx\n:a\n:a", script3}, [2]string{"{\n:a;:a", script2}, [2]string{"{\n}\n{\n\ny/a//", "error 102, line 5"}, [2]string{"tx\n}\n{", script2},
	)
}

// P19.1, R2: of one command ESCRIPT comes ahead of EREGEX.
func TestFlawsOfOneCommand(t *testing.T) {
	allRead(t, script1, "/\\(/k", "/\\(/", "/[/}", "/\\(/,0p", "/\\(/pp", "s/\\(/x/z", "s/x/\\1/gg", "s/[/x", "s/x/\\1/0", "/[/s/a/b", "/[/y/a/bc/", "/[/b}", "/\\(/:", "/[/s//x/", "s/\\(/x/p p", "/[/b a b", "/[/ba,", "/x\\{/!!p", "0,/[/p")
	allRead(t, regex1, "/\\(/bx", "/[/{", "{/[/b\n}\n}", "{s/[/x/")
}
