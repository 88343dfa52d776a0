package sed_test

import (
	"fmt"
	"strconv"
	"strings"
	"testing"

	"tinsel/api"
	"tinsel/sed"
)

// The calls, with the signatures that the chapter lists.
var (
	_ func(string, bool) (*sed.Prog, int, api.Errno)         = sed.Parse
	_ func(*sed.Prog) int                                    = (*sed.Prog).Size
	_ func(*sed.Prog, []byte, bool) ([]byte, int, api.Errno) = (*sed.Prog).Run
	_ func(*sed.Prog) []string                               = (*sed.Prog).Lines
)

// What is told of a flaw, with nothing beside it.
const (
	script1 = "error 102, line 1"
	script2 = "error 102, line 2"
	script3 = "error 102, line 3"
	regex1  = "error 101, line 1"
	regex2  = "error 101, line 2"
)

// told: is it what a call should tell?
func told(t *testing.T, what, got, want string) {
	t.Helper()
	if got == want {
		return
	}
	t.Errorf("%s: %s, want %s", brief(what), brief(got), brief(want))
}

// brief: a text in quotes; of a long one how it begins and ends.
func brief(s string) string {
	if most := 400; len(s) > most {
		return fmt.Sprintf("%q..%q (%d bytes)", s[:most/2], s[len(s)-most/2:], len(s))
	}
	return strconv.Quote(s)
}

// flawed: what is told of an error.
func flawed(line int, e api.Errno) string { return fmt.Sprintf("error %d, line %d", int(e), line) }

// read: what Parse tells of a script: its commands, each as a line that ends; or the flaw.
func read(script string, extended bool) string {
	p, line, e := sed.Parse(script, extended)
	switch {
	case e != api.OK && p != nil:
		return flawed(line, e) + ", not alone"
	case e != api.OK:
		return flawed(line, e)
	case p == nil || line != 0:
		return fmt.Sprintf("OK beside %v, %d", p, line)
	}
	return said(p)
}

// said: a program's commands, each as a line that ends.
func said(p *sed.Prog) string {
	l := p.Lines()
	if p.Size() != len(l) {
		return fmt.Sprintf("%d commands in %d lines", p.Size(), len(l))
	}
	var b strings.Builder
	for _, s := range l {
		if strings.Contains(s, "\n") {
			return fmt.Sprintf("no line: %q", s)
		}
		b.WriteString(s + "\n")
	}
	return b.String()
}

// reads: each of these basic scripts has the commands that stand behind it, parted by line feeds.
func reads(t *testing.T, of ...[2]string) {
	t.Helper()
	for _, v := range of {
		want := v[1]
		if !strings.HasPrefix(want, "error ") && want != "" {
			want += "\n"
		}
		told(t, v[0], read(v[0], false), want)
	}
}

// allRead: all of these scripts tell the same.
func allRead(t *testing.T, want string, of ...string) {
	t.Helper()
	for _, v := range of {
		reads(t, [2]string{v, want})
	}
}

// parsed: the program of a basic script that must be one.
func parsed(t *testing.T, script string) *sed.Prog {
	t.Helper()
	p, line, e := sed.Parse(script, false)
	if e != api.OK {
		t.Fatalf("%s: %s", brief(script), flawed(line, e))
	}
	return p
}

// ran: what a program makes of an input; a flaw is told behind that.
func ran(p *sed.Prog, in string, quiet bool) string {
	out, line, e := p.Run([]byte(in), quiet)
	if e != api.OK || line != 0 {
		return string(out) + flawed(line, e)
	}
	return string(out)
}

// tells: what each script makes of an input, not quiet.
func tells(t *testing.T, in string, of ...[2]string) {
	t.Helper()
	for _, v := range of {
		told(t, v[0]+" on "+brief(in), ran(parsed(t, v[0]), in, false), v[1])
	}
}

// hushed: likewise, quiet.
func hushed(t *testing.T, in string, of ...[2]string) {
	t.Helper()
	for _, v := range of {
		told(t, v[0]+" on "+brief(in)+", quiet", ran(parsed(t, v[0]), in, true), v[1])
	}
}

// list: texts, where a call's are written.
func list(l ...string) []string { return l }

// times: a text so often.
func times(n int, s string) string { return strings.Repeat(s, n) }

// everyText: those of at most so many of some parts.
func everyText(most int, parts ...string) []string {
	all := []string{""}
	for from, n := 0, 0; n < most; n++ {
		end := len(all)
		for _, s := range all[from:end] {
			for _, p := range parts {
				all = append(all, s+p)
			}
		}
		from = end
	}
	return all
}

// ended: so many lines x.
func ended(n int) string { return times(n, "x\n") }
