package expr_test

import (
	"fmt"
	"strings"
	"testing"

	"tinsel/api"
	"tinsel/expr"
	"tinsel/fault"
)

// kinds: a tree of directories, files, links, and links that lead nowhere; with set bits on some.
func kinds() []string {
	return list("d /d", "f /f 3", "f /e 0", "l /ld d", "l /lf f", "l /le e", "l /no nowhere", "l /me me", "l /lld ld",
		"f /u 1", "m /u 4755", "f /g 1", "m /g 2755", "f /k 1", "m /k 1755", "d /s", "m /s 7777", "l /lu u", "f /all 0", "m /all 6777", "f /none 1", "m /none 0")
}

// holdsOf: of which of these paths an operator is true; the others' answers are false.
func holdsOf(t *testing.T, g *fault.Gate, op string, paths []string, of string) {
	t.Helper()
	var l []string
	for _, path := range paths {
		so, e := expr.Test(g, list(op, path))
		good(t, op+" "+path, e)
		if so {
			l = append(l, path)
		}
	}
	told(t, op, strings.Join(l, " "), of)
}

// P18.2: the operators of types, sizes and set bits, by root.
func TestUnaryOfFiles(t *testing.T) {
	g := gate(t, kinds()...)
	paths := list("/", "/d", "/f", "/e", "/ld", "/lf", "/le", "/no", "/me", "/lld", "/u", "/g", "/k", "/s", "/lu", "/all", "/none", "/x", "", "/f/", "/d/", "/ld/", "/lf/", "/no/", "/f/x", "d", "./f", "/d/../f", "a\x00", strings.Repeat("n", 28), strings.Repeat("/", 256))
	for op, of := range map[string]string{
		"-e": "/ /d /f /e /ld /lf /le /lld /u /g /k /s /lu /all /none /d/ /ld/ d ./f /d/../f",
		"-f": "/f /e /lf /le /u /g /k /lu /all /none ./f /d/../f",
		"-d": "/ /d /ld /lld /s /d/ /ld/ d",
		"-p": "", "-b": "", "-c": "", "-S": "",
		"-h": "/ld /lf /le /no /me /lld /lu",
		"-L": "/ld /lf /le /no /me /lld /lu",
		"-s": "/ /d /f /ld /lf /lld /u /g /k /s /lu /none /d/ /ld/ d ./f /d/../f",
		"-u": "/u /s /lu /all", "-g": "/g /s /all", "-k": "/k /s",
		"-r": "/ /d /f /e /ld /lf /le /lld /u /g /k /s /lu /all /none /d/ /ld/ d ./f /d/../f",
		"-w": "/ /d /f /e /ld /lf /le /lld /u /g /k /s /lu /all /none /d/ /ld/ d ./f /d/../f",
		"-x": "/ /d /ld /lld /u /g /k /s /lu /all /d/ /ld/ d",
		"-O": "/ /d /f /e /ld /lf /le /lld /u /g /k /s /lu /all /none /d/ /ld/ d ./f /d/../f",
		"-G": "/ /d /f /e /ld /lf /le /lld /u /g /k /s /lu /all /none /d/ /ld/ d ./f /d/../f",
	} {
		holdsOf(t, g, op, paths, of)
	}
}

// owned: files of several owners and groups, with bits for one kind of them each.
func owned() []string {
	return list("f /u4 1", "m /u4 400", "o /u4 7 8", "f /u2 1", "m /u2 200", "o /u2 7 8", "f /u1 1", "m /u1 100", "o /u1 7 8",
		"f /g4 1", "m /g4 40", "o /g4 9 8", "f /g2 1", "m /g2 20", "o /g2 9 8", "f /g1 1", "m /g1 10", "o /g1 9 8",
		"f /o4 1", "m /o4 4", "o /o4 9 9", "f /o2 1", "m /o2 2", "o /o2 9 9", "f /o1 1", "m /o1 1", "o /o1 9 9",
		"f /s4 1", "m /s4 40", "o /s4 9 5", "f /root 1", "m /root 644", "d /shut", "m /shut 700", "f /shut/f 1", "l /l u4", "o /l 3 4", "l /lg root", "o /lg 7 8")
}

// P18.2: owners and groups, by others than root.
func TestUnaryByOthers(t *testing.T) {
	p := grown(t, owned()...)
	paths := list("/u4", "/u2", "/u1", "/g4", "/g2", "/g1", "/o4", "/o2", "/o1", "/s4", "/root", "/shut", "/shut/f", "/l", "/lg", "/x")
	for _, v := range []struct {
		who  *fault.Gate
		want map[string]string
	}{
		{as(t, p, 7, 8), map[string]string{"-O": "/u4 /u2 /u1 /l", "-G": "/u4 /u2 /u1 /g4 /g2 /g1 /l", "-r": "/u4 /g4 /o4 /root /l /lg", "-w": "/u2 /g2 /o2", "-x": "/u1 /g1 /o1"}},
		{as(t, p, 9, 9), map[string]string{"-O": "/g4 /g2 /g1 /o4 /o2 /o1 /s4", "-G": "/o4 /o2 /o1", "-r": "/root /lg", "-w": "", "-x": ""}},
		{as(t, p, 7, 4, 5), map[string]string{"-O": "/u4 /u2 /u1 /l", "-G": "", "-r": "/u4 /o4 /s4 /root /l /lg", "-w": "/u2 /o2", "-x": "/u1 /o1"}},
		{as(t, p, 1, 2, 8), map[string]string{"-O": "", "-G": "", "-r": "/g4 /o4 /root /lg", "-w": "/g2 /o2", "-x": "/g1 /o1"}},
		{as(t, p, 3, 5), map[string]string{"-O": "", "-G": "/s4", "-r": "/o4 /s4 /root /lg", "-w": "/o2", "-x": "/o1"}},
		{fault.New(p), map[string]string{"-O": "/root /shut /shut/f /lg", "-G": "/root /shut /shut/f /lg", "-r": "/u4 /u2 /u1 /g4 /g2 /g1 /o4 /o2 /o1 /s4 /root /shut /shut/f /l /lg", "-w": "/u4 /u2 /u1 /g4 /g2 /g1 /o4 /o2 /o1 /s4 /root /shut /shut/f /l /lg", "-x": "/u1 /g1 /o1 /shut"}},
	} {
		for op, of := range v.want {
			holdsOf(t, v.who, op, paths, of)
		}
	}
	holdsOf(t, as(t, p, 7, 8), "-e", list("/shut", "/shut/f", "/shut/x"), "/shut")
	holdsOf(t, as(t, p, 7, 8), "-h", list("/shut", "/shut/f", "/l"), "/l")
}

// P18.2: what the operators tell is what the process' calls tell, for every path and bit.
func TestUnaryModel(t *testing.T) {
	lines := kinds()
	for i := range 64 {
		name := fmt.Sprintf("/m%d", i)
		lines = append(lines, "f "+name+" "+fmt.Sprint(i%3), fmt.Sprintf("m %s %o", name, i*0o111^i<<6), fmt.Sprintf("o %s %d %d", name, i%4, i%3))
	}
	p := grown(t, lines...)
	entries, e := p.FS().Entries(1)
	good(t, "Entries", e)
	for _, g := range []*fault.Gate{fault.New(p), as(t, p, 1, 1), as(t, p, 2, 0, 1, 2), as(t, p, 3, 2), as(t, p, 5, 5)} {
		for _, entry := range entries {
			path := "/" + entry.Name
			st, e := g.Stat(path)
			link, e2 := g.Lstat(path)
			there := e == api.OK
			kind := st.Mode & api.TypeMask
			for op, want := range map[string]bool{
				"-e": there, "-f": kind == api.TypeReg, "-d": kind == api.TypeDir, "-p": false, "-h": e2 == api.OK && link.Mode&api.TypeMask == api.TypeLink, "-L": e2 == api.OK && link.Mode&api.TypeMask == api.TypeLink, "-s": st.Size > 0,
				"-r": g.Access(path, 4) == api.OK, "-w": g.Access(path, 2) == api.OK, "-x": g.Access(path, 1) == api.OK, "-u": st.Mode&0o4000 != 0, "-g": st.Mode&0o2000 != 0, "-k": st.Mode&0o1000 != 0,
				"-O": there && st.Uid == g.Cred().Uid, "-G": there && st.Gid == g.Cred().Gid, "-b": false, "-c": false, "-S": false,
			} {
				told(t, op+" "+path, test(g, op, path), yes(want))
			}
		}
	}
}

// P18.2: -t N: false, whatever is open; its number's errors.
func TestTerminal(t *testing.T) {
	g := gate(t)
	for range 3 {
		_, e := g.Tape(nil)
		good(t, "Tape", e)
	}
	for _, n := range list("0", "1", "2", "3", "-1", "007", most, "-"+most) {
		told(t, "-t "+n, test(g, "-t", n), "false")
		told(t, "! -t "+n, test(g, "!", "-t", n), "true")
	}
	for _, no := range noIntegers() {
		told(t, "-t "+no, test(g, "-t", no), inval)
		told(t, "! -t "+no, test(g, "!", "-t", no), inval)
		told(t, "( -t "+no+" )", test(g, "(", "-t", no, ")"), inval)
	}
	for _, far := range tooGreat() {
		told(t, "-t "+far, test(g, "-t", far), ranges)
		told(t, "x -o -t "+far, test(g, "x", "-o", "-t", far), ranges)
	}
	told(t, "-t", test(g, "-t"), "true")
}

// P18.2: -nt, -ot, -ef of two that are there, one, or none; through links.
func TestTwoFiles(t *testing.T) {
	g := gate(t, "f /a 1", "h /a2 /a", "f /b 1", "f /c 1", "f /neg 1", "f /low 1", "f /top 1", "l /la a", "l /lb b", "l /no none", "d /d", "l /ld d",
		"t /a 500", "t /b 600", "t /c 600", "t /neg -5", "t /low -9223372036854775808", "t /top 9223372036854775807", "t /la 900", "t /lb 1", "t /d 550", "t /no 999")
	for _, v := range [][5]string{
		// two paths; -nt, -ot, -ef
		{"/a", "/b", "n", "o", "n"}, {"/b", "/a", "y", "n", "n"}, {"/b", "/c", "n", "n", "n"}, {"/a", "/a", "n", "n", "y"}, {"/a", "/a2", "n", "n", "y"}, {"/a", "//a", "n", "n", "y"},
		{"/a", "/la", "n", "n", "y"}, {"/la", "/a2", "n", "n", "y"}, {"/la", "/lb", "n", "o", "n"}, {"/lb", "/la", "y", "n", "n"}, {"/lb", "/b", "n", "n", "y"}, {"/lb", "/a", "y", "n", "n"}, {"/ld", "/d", "n", "n", "y"}, {"/d", "/a", "y", "n", "n"}, {"/d", "/b", "n", "o", "n"}, {"/d", "/d/.", "n", "n", "y"}, {"/", "/d/..", "n", "n", "y"},
		{"/neg", "/a", "n", "o", "n"}, {"/a", "/neg", "y", "n", "n"}, {"/low", "/neg", "n", "o", "n"}, {"/low", "/top", "n", "o", "n"}, {"/top", "/low", "y", "n", "n"}, {"/low", "/low", "n", "n", "y"},
		{"/a", "/x", "y", "n", "n"}, {"/x", "/a", "n", "o", "n"}, {"/low", "/x", "y", "n", "n"}, {"/x", "/low", "n", "o", "n"}, {"/a", "/no", "y", "n", "n"}, {"/no", "/a", "n", "o", "n"}, {"/la", "", "y", "n", "n"}, {"", "/la", "n", "o", "n"}, {"/neg", "/a/", "y", "n", "n"},
		{"/x", "/y", "n", "n", "n"}, {"/x", "/x", "n", "n", "n"}, {"/no", "/no", "n", "n", "n"}, {"/no", "/x", "n", "n", "n"}, {"", "", "n", "n", "n"}, {"/x", "/no", "n", "n", "n"},
	} {
		for i, op := range list("-nt", "-ot", "-ef") {
			told(t, v[0]+" "+op+" "+v[1], test(g, v[0], op, v[1]), yes(v[2+i] != "n"))
			told(t, "! "+v[0]+" "+op+" "+v[1], test(g, "!", v[0], op, v[1]), yes(v[2+i] == "n"))
		}
	}
}

// P18.2: relative paths begin where the process is.
func TestWhereTheProcessIs(t *testing.T) {
	g := gate(t, "d /d", "f /d/f 1", "f /g 1", "l /d/l f")
	good(t, "Chdir", g.Chdir("/d"))
	asks(t, g, [2]string{"-f f", "true"}, [2]string{"-f g", "false"}, [2]string{"-f ../g", "true"}, [2]string{"-d .", "true"}, [2]string{"-h l", "true"}, [2]string{"-r f", "true"}, [2]string{"f -ef /d/f", "true"}, [2]string{"l -ef f", "true"}, [2]string{". -ef /d", "true"}, [2]string{"f -ot x", "false"})
}

// fails: the choice that the nth call of a name fails so.
func fails(call string, nth int, e api.Errno) api.Choice {
	return api.Choice{Call: call, Nth: nth, Errno: e}
}

// P18.2: a call that answers an error: false; nothing of it is told.
func TestCallsThatFail(t *testing.T) {
	p := grown(t, "d /d", "m /d 7777", "f /f 1", "m /f 777", "l /l f")
	for _, v := range []struct{ call, ops, path string }{
		{"stat", "-e -d -s -u -g -k -O -G", "/d"}, {"stat", "-f", "/f"}, {"lstat", "-h -L", "/l"}, {"access", "-r -w -x", "/d"},
	} {
		for _, op := range words(v.ops) {
			for _, e := range []api.Errno{api.EIO, api.EACCES} {
				g := fault.New(p, fails(v.call, 2, e))
				told(t, op+" ahead of it", test(g, op, v.path), "true")
				told(t, op+" that fails", test(g, op, v.path), "false")
				told(t, op+" behind it", test(g, "x", "=", "x", "-a", op, v.path), "true")
				told(t, op+": Given", fmt.Sprint(len(g.Given()), g.Calls(), g.Count(v.call)), "1 3 3")
				g = fault.New(p, fails(v.call, 1, e))
				told(t, "! "+op+" that fails", test(g, "!", op, v.path), "true")
			}
		}
	}
	// The one that fails is as one that is not there.
	for nth, want := range []string{"-nt", "-ot"} {
		for _, op := range list("-nt", "-ot", "-ef") {
			g := fault.New(p, fails("stat", 2-nth, api.EIO))
			told(t, fmt.Sprint("/d ", op, " /f, fault ", 2-nth), test(g, "/d", op, "/f"), yes(op == want))
			g = fault.New(p, fails("stat", 1, api.EIO), fails("stat", 2, api.EACCES))
			told(t, "both fail", test(g, "/d", op, "/d"), "false")
		}
	}
}

// P18.2: the calls that each operator makes; all are reckoned, from the left.
func TestCallsThatAreMade(t *testing.T) {
	p := grown(t, "d /d", "f /f 1", "l /l f")
	for _, v := range [][2]string{
		{"-e /f", "1 0 0"}, {"-f /f", "1 0 0"}, {"-d /f", "1 0 0"}, {"-p /f", "1 0 0"}, {"-s /x", "1 0 0"}, {"-u /f", "1 0 0"}, {"-g /f", "1 0 0"}, {"-k /f", "1 0 0"}, {"-O /f", "1 0 0"}, {"-G /f", "1 0 0"}, {"-h /f", "0 1 0"}, {"-L /l", "0 1 0"}, {"-r /f", "0 0 1"}, {"-w /f", "0 0 1"}, {"-x /f", "0 0 1"},
		{"/f -nt /d", "2 0 0"}, {"/f -ot /x", "2 0 0"}, {"/x -ef /f", "2 0 0"}, {"-n /f", "0 0 0"}, {"-z /f", "0 0 0"}, {"/f = /d", "0 0 0"}, {"/f < /d", "0 0 0"}, {"/f", "0 0 0"}, {"! /f", "0 0 0"}, {"1 -eq 1", "0 0 0"}, {"-t 1", "0 0 0"},
		{"x -o -e /f", "1 0 0"}, {" -a -e /f", "1 0 0"}, {"-e /x -a -h /l", "1 1 0"}, {"-e /f -o -h /l -o -r /f", "1 1 1"}, {"! -e /f -a ! -r /f", "1 0 1"}, {"( -e /f )", "1 0 0"}, {"a -eq 1 -a -e /f", "0 0 0"}, {"-e /f -a a -eq 1 -a -r /f", "1 0 0"}, {"-e /f -a -e /f b", "0 0 0"}, {"-e /f -a ( -r /f", "0 0 0"}, {"/f -nt /d -a x -eq y -o -h /l", "2 0 0"},
	} {
		g := fault.New(p)
		test(g, words(v[0])...)
		told(t, v[0], fmt.Sprint(g.Count("stat"), g.Count("lstat"), g.Count("access")), v[1])
		told(t, v[0]+": Calls", fmt.Sprint(g.Calls()), fmt.Sprint(g.Count("stat")+g.Count("lstat")+g.Count("access")))
	}
}

// P18.2: the calls go from the left: of three the one fails whose turn it is.
func TestOrderOfCalls(t *testing.T) {
	p := grown(t, "f /a 1", "f /b 1", "f /c 1")
	for nth := range 3 {
		for which, s := range list("! -e /a -a -e /b -a -e /c", "-e /a -a ! -e /b -a -e /c", "-e /a -a -e /b -a ! -e /c") {
			for _, s := range list(s, "( "+s+" )", s+" -o x = y", "x = y -o "+s) {
				g := fault.New(p, fails("stat", nth+1, api.EIO))
				told(t, s, test(g, words(s)...), yes(which == nth))
			}
		}
	}
	for nth, want := range list("-ot", "-nt") {
		g := fault.New(p, fails("stat", nth+1, api.EIO))
		told(t, want, test(g, words("/a "+want+" /b")...), "true")
	}
}
