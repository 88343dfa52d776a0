package sed_test

import (
	"bytes"
	"slices"
	"strings"
	"sync"
	"testing"

	"tinsel/api"
	"tinsel/sed"
)

// The chapter's examples.
func TestExamples(t *testing.T) {
	tells(t, "aa\n", [2]string{"s/a/b/g", "bb\n"})
	tells(t, "1\n2\n3\n", [2]string{"2q", "1\n2\n"}, [2]string{"$!N;P;D", "1\n2\n3\n"}, [2]string{"1,2d", "3\n"}, [2]string{"1!G;h;$!d", "3\n2\n1\n"})
	tells(t, "axbxxc\nx\n", [2]string{":a;s/x//;ta", "abc\n\n"})
	tells(t, "cab\n", [2]string{"y/abc/ABC/", "CAB\n"}, [2]string{":a;ba", stopped(1)})
	hushed(t, "x\na\ny\nb\nz\n", [2]string{"/a/,/b/p", "a\ny\nb\n"})
	allRead(t, script1, "s/a", "x}", "3!", "k")
	reads(t, [2]string{"s/\\(a/b/", regex1})
}

// R5: a program that no call made.
func TestProgramsThatNoCallMade(t *testing.T) {
	for _, p := range []*sed.Prog{nil, {}, new(sed.Prog)} {
		for _, in := range [][]byte{nil, {}, []byte("a\n"), bytes.Repeat([]byte("x"), 100000)} {
			for _, quiet := range []bool{false, true} {
				if out, line, e := p.Run(in, quiet); out != nil || line != 0 || e != api.EFAULT {
					t.Errorf("Run: %q, %d, %v", out, line, e)
				}
			}
		}
		if p.Size() != 0 || len(p.Lines()) != 0 {
			t.Errorf("Size, Lines: %d, %q", p.Size(), p.Lines())
		}
	}
	var zero sed.Prog
	zero.Run([]byte("a"), false)
	if _, _, e := zero.Run([]byte("a"), false); e != api.EFAULT {
		t.Errorf("the second time: %v", e)
	}
}

// R3: nil is the empty input.
func TestNilInput(t *testing.T) {
	for _, s := range list("", "p", "$p", "i x", "=", "q", "n", ":a;ba") {
		for _, in := range [][]byte{nil, {}} {
			out, line, e := parsed(t, s).Run(in, false)
			if len(out) != 0 || line != 0 || e != api.OK {
				t.Errorf("%s: %q, %d, %v", s, out, line, e)
			}
		}
	}
}

// R3: an input stays as it was, also what lies in the room behind it; an answer is new memory.
func TestMemory(t *testing.T) {
	const text = "ab\nxa\n\nbb"
	for _, s := range append(someScripts(), ":a;s/x//;ta", "N;P;D", "s/b*/y/g", "y/ab/ba/", ":a;G;ba") {
		p := parsed(t, s)
		room := []byte("----" + text + "behind it")
		in := room[4 : 4+len(text)]
		first, line, e := p.Run(in, false)
		told(t, s+": the input", string(room), "----"+text+"behind it")
		want := string(first)
		clear(room)
		told(t, s+": the answer", string(first), want)
		whole := first[:cap(first)]
		clear(whole)
		again, line2, e2 := p.Run([]byte(text), false)
		if string(again) != want || line2 != line || e2 != e {
			t.Errorf("%s: %q, then %q", s, want, again)
		}
		lines := p.Lines()
		for i := range lines {
			lines[i] = "changed"
		}
		if l := p.Lines(); len(l) != p.Size() || slices.Contains(l, "changed") {
			t.Errorf("%s: Lines: %q", s, l)
		}
	}
}

// R2: beside an error all is zero, but for what was told so far and the line.
func TestBesideErrors(t *testing.T) {
	for _, s := range list("k", "}", "{", "bx", "s/a", "s/\\(/x/", times(5000, "p\n"), "p\np\n0p", ":a;:a") {
		for _, extended := range []bool{false, true} {
			p, line, e := sed.Parse(s, extended)
			if e != api.OK && p != nil {
				t.Errorf("%s: %v beside %d, %v", brief(s), p, line, e)
			}
		}
	}
	p := parsed(t, ":a;ba")
	if out, line, e := p.Run([]byte("x\n"), false); len(out) != 0 || line != 1 || e != api.ESTEPS {
		t.Errorf("%q, %d, %v", out, line, e)
	}
}

// R1: every call ends, whatever it is given.
func TestOddScripts(t *testing.T) {
	var scripts []string
	for c := range 256 {
		b := string([]byte{byte(c)})
		for _, s := range list("", "s", "y", "1,", "/", "s/a/b/", ":", "b", "a", "!", "{", "p;", "s"+b, "y"+b+b, "s/"+b+"/", "/"+b+"/", "1"+b+"2") {
			scripts = append(scripts, s+b, s+b+"/x/", s+b+b)
		}
	}
	odd := list("\x00", times(4096, "\x00"), times(4096, "{"), times(4096, "}"), times(4096, "!"), times(4096, "s"), times(4096, "/"), times(4096, "\\"), "s"+times(4095, "\\"), times(4096, "1"), times(4096, ","), "s/"+times(4000, "(")+"/x/", "s/"+times(2000, "\\(")+"/x/", "/"+times(2000, "[")+"/p", "y/"+times(1000, "\\\\")+"/"+times(1000, "a")+"/", ":"+times(4095, "a"), "b"+times(4095, "a"), times(1365, ":a;"), times(2048, "b;"), times(1024, "1,2p"), "\xff\xfe", "日本", "s日a日b日", "p\r\n", "1\n,2p", "1,2\np", "!\np", "a\\\nb\\\nc")
	for _, s := range append(scripts, odd...) {
		for _, extended := range []bool{false, true} {
			p, line, e := sed.Parse(s, extended)
			switch {
			case e == api.OK && p != nil && line == 0:
				p.Run([]byte("a\nb/\n/\\\n"+s), false)
				if p.Size() != len(p.Lines()) {
					t.Errorf("%s: %d, %q", brief(s), p.Size(), p.Lines())
				}
			case e != api.ESCRIPT && e != api.EREGEX || p != nil || line < 1 || line > 1+strings.Count(s, "\n"):
				t.Errorf("%s: %v, %d, %v", brief(s), p, line, e)
			}
		}
	}
}

// R4: what a program answers does not hang on other calls; it may be run many times at once.
func TestManyAtOnce(t *testing.T) {
	in := "a\nb\naxxb\n\nc"
	for _, s := range list("/a/,/b/s/x//g", "1!G;h;$!d", ":a;s/x/y/;ta;p", "$!N;P;D", "a x\nn;=", ":a;ba", "y/ab/ba/;2,3c z") {
		p := parsed(t, s)
		want := ran(p, in, false)
		var group sync.WaitGroup
		got := make([]string, 20)
		for i := range got {
			group.Go(func() {
				p.Run([]byte("a\na\na\n"), i%2 == 0)
				q, _, _ := sed.Parse(s, false)
				got[i] = ran(q, in, false)
				if i%2 == 0 {
					got[i] = ran(p, in, false)
				}
			})
		}
		group.Wait()
		for _, g := range got {
			told(t, s, g, want)
		}
	}
}

// Much input is gone through once.
func TestMuchInput(t *testing.T) {
	in := times(400000, "some line\n")
	told(t, "no command", ran(parsed(t, ""), in, false), in)
	told(t, "q", ran(parsed(t, "9999q"), in, true), "")
	lines := times(9000, times(1000, "word ")+"\n")
	told(t, "p", ran(parsed(t, "p"), lines, true), lines)
	told(t, "hold", ran(parsed(t, "1!G;h;$!d"), ended(3000), false), ended(3000))
	told(t, "one by one", ran(parsed(t, ":a;s/x//;ta"), times(4500, "x")+"\n", false), "\n")
	told(t, "at once", ran(parsed(t, "s/x//g"), times(60000, "x")+"\n", false), "\n")
	told(t, "append", ran(parsed(t, ":a;a x\n/y/b\ns/$/z/2\nba"), "y\n", false), "y\nx\n")
}
