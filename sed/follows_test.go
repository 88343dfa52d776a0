package sed_test

import (
	"math/rand"
	"slices"
	"strings"
	"testing"

	"tinsel/api"
	"tinsel/sed"
)

// P19.3: the script p with quiet tells the input; an empty one, too, without.
func TestTellsTheInput(t *testing.T) {
	p, none := parsed(t, "p"), parsed(t, "")
	for _, in := range everyText(5, "a", "\n", "\x00") {
		told(t, "without commands: "+brief(in), ran(none, in, false), in)
		told(t, "without commands, quiet: "+brief(in), ran(none, in, true), "")
		if in == "" || strings.HasSuffix(in, "\n") {
			told(t, "p: "+brief(in), ran(p, in, true), in)
		}
	}
	r := rand.New(rand.NewSource(193))
	for range 300 {
		b := make([]byte, r.Intn(3000))
		r.Read(b)
		in := string(b)
		told(t, "without commands", ran(none, in, false), in)
		told(t, "p", ran(p, in+"\n", true), in+"\n")
	}
}

// someScripts: scripts with each command and each way to write it.
func someScripts() []string {
	return list("", "p", "{p}", ";;p;{d;;};", "1,$!{2{=}}", "a x;}\ni\ty \nc", ":a;ba\n:b ; tb;t;b", " 007,8 p", "7,0008 ! p", "s/a/b/", "s|a\\|b|\\|&|pg03i", "s/\\(a\\)b/\\1\\n\\\\/512", "s,/,\\,,", "s a b g", "y/abc/\\n\\\\\\//", "y,a\\,,bc,", "/a\\/b/,$d", "/;}/!G;h", "$!N;P;D", "1!G;h;$!d", "x;g;H;n;q;=", "a\na", "i \\\nc  \t", "{{{}}}", "sgagbgg", "s1a1b11", "s}a}b};y;a;b;;p")
}

// P19.4: Parse of Lines, parted by line feeds, is the same program.
func TestParseOfLines(t *testing.T) {
	for _, s := range someScripts() {
		p := parsed(t, s)
		sameProgram(t, s, p, parsed(t, strings.Join(p.Lines(), "\n")))
		sameProgram(t, s, p, parsed(t, strings.Join(p.Lines(), "\n")+"\n"))
	}
	r := rand.New(rand.NewSource(194))
	for range 150 {
		s := drawnScript(r)
		sameProgram(t, s, parsed(t, s), parsed(t, strings.Join(parsed(t, s).Lines(), "\n")))
	}
	for _, s := range list("s/(a)|b/\\1/", "/a+/,/b?/p", "s/\\(/x/") {
		p, _, _ := sed.Parse(s, true)
		again, _, e := sed.Parse(strings.Join(p.Lines(), "\n"), true)
		if e != api.OK {
			t.Errorf("%s: %v", s, e)
			continue
		}
		sameProgram(t, s, p, again)
	}
}

// sameProgram: do two say the same, and do the same?
func sameProgram(t *testing.T, what string, p, q *sed.Prog) {
	t.Helper()
	if p.Size() != q.Size() || !slices.Equal(p.Lines(), q.Lines()) {
		t.Errorf("%s: %q, then %q", brief(what), p.Lines(), q.Lines())
	}
	for _, in := range list("", "a", "a/b\nab\n;}\nb,a\n\nxAb") {
		for _, quiet := range []bool{false, true} {
			told(t, what+" on "+brief(in), ran(q, in, quiet), ran(p, in, quiet))
		}
	}
}

// P19.5: 1!G;h;$!d is tac of lines that are ended; G and h, H and x are as they say.
func TestTac(t *testing.T) {
	tac, kept, all := parsed(t, "1!G;h;$!d"), parsed(t, "$!{h;d}"), parsed(t, "H;$!d;x")
	turned := parsed(t, "$!{h;d};H;x")
	r := rand.New(rand.NewSource(195))
	for n := range 200 {
		var lines []string
		for range n % 40 {
			lines = append(lines, times(r.Intn(4), "ab\x00")+times(r.Intn(3), "\xff")+"\n")
		}
		in := strings.Join(lines, "")
		back := slices.Clone(lines)
		slices.Reverse(back)
		told(t, "tac of "+brief(in), ran(tac, in, false), strings.Join(back, ""))
		if n%40 == 0 {
			continue
		}
		last := lines[len(lines)-1]
		told(t, "the last one of "+brief(in), ran(kept, in, false), last)
		told(t, "all of "+brief(in), ran(all, in, false), "\n"+in)
		want := "\n" + last
		if len(lines) > 1 {
			want = lines[len(lines)-2] + last
		}
		told(t, "the last two of "+brief(in), ran(turned, in, false), want)
	}
}
