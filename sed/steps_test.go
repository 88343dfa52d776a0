package sed_test

import (
	"fmt"
	"strings"
	"testing"

	"tinsel/api"
	"tinsel/sed"
)

// stopped: what is told of a run that asks for too much.
func stopped(line int) string { return flawed(line, api.ESTEPS) }

// P19.2: one input asks for at most MaxSteps commands; each one that is looked at counts, } too.
func TestSteps(t *testing.T) {
	for _, v := range []struct {
		script string
		each   int // commands that are looked at on each line
	}{
		{"x", 1}, {"x;x", 2}, {"x;x;x", 3}, {"9999999!x", 1}, {"9999999x", 1}, {"!x", 1}, {"{x}", 3}, {"{}", 2}, {"!{x}", 1}, {"!{x};x", 2}, {"{!{x;x};x}", 4}, {"{{x}}", 5}, {":a;x", 2}, {":a;:b;:c", 3},
		{"b;x;x", 1}, {"ba;:a;x", 2}, {"ba;x;:a;x", 2}, {"t;x", 2}, {"d;x", 1}, {"c y\nx", 1}, {"a y\nx", 2}, {"s/x/y/;t;x", 2}, {"s/q/y/;t;x", 3}, {"/q/,/r/x;=", 2}, {"G;D", 0},
	} {
		p := parsed(t, v.script)
		if v.each == 0 {
			told(t, v.script, ran(p, "x\n", true), stopped(1))
			continue
		}
		lines := api.MaxSteps / v.each
		if _, line, e := p.Run([]byte(ended(lines)), true); line != 0 || e != api.OK {
			t.Errorf("%s on %d lines: %s", v.script, lines, flawed(line, e))
		}
		if _, line, e := p.Run([]byte(ended(lines+2)), true); line != lines+1 || e != api.ESTEPS {
			t.Errorf("%s on more than %d lines: %s", v.script, lines, flawed(line, e))
		}
	}
	told(t, "nothing to look at", ran(parsed(t, ""), ended(30000), false), ended(30000))
}

// P19.2: what was told so far is told, and the line's number.
func TestStepsSoFar(t *testing.T) {
	all := ended(10001)
	told(t, "p", ran(parsed(t, "p"), all, false), ended(20000)+stopped(10001))
	told(t, "p, quiet", ran(parsed(t, "p"), all, true), ended(10000)+stopped(10001))
	told(t, "p;p;p", ran(parsed(t, "p;p;p"), all, false), ended(3333*4+1)+stopped(3334))
	told(t, "n", ran(parsed(t, "n"), ended(20001), false), ended(20000)+stopped(20001))
	told(t, "N", ran(parsed(t, "N"), ended(20001), false), ended(20000)+stopped(20001))
	told(t, "n;n", ran(parsed(t, "n;n"), ended(15003), false), ended(15000)+stopped(15001))
	told(t, "within a cycle", ran(parsed(t, "n;x;x"), ended(15003), false), ended(6667)+stopped(6668))
	hushed(t, "x\n", [2]string{":a;ba", stopped(1)}, [2]string{"p;:a;ba", "x\n" + stopped(1)}, [2]string{"i y\n:a;=;ba", "y\n" + times(4999, "1\n") + stopped(1)}, [2]string{"a y\n:a;ba", stopped(1)}, [2]string{":a;s/x/x/;ta", stopped(1)}, [2]string{"s/^/\\n/;:a;s/^/\\n/;D", stopped(1)})
	hushed(t, "x\nx\nx\n", [2]string{"2{:a;ba\n};p", "x\n" + stopped(2)}, [2]string{"N;N;:a;ba", stopped(3)}, [2]string{"n;p;:a;ba", "x\n" + stopped(2)}, [2]string{"$!d;:a;P;ba", times(4998, "x\n") + stopped(3)})
	tells(t, "x\nx\n", [2]string{"2!b;:a;ba", "x\n" + stopped(2)}, [2]string{"n;:a;ba", "x\n" + stopped(2)}, [2]string{"a y\nn;:a;ba", "x\ny\n" + stopped(2)}, [2]string{"i y\n:a;ba", "y\n" + stopped(1)})
	p := parsed(t, "p")
	for range 2 {
		told(t, "each input counts anew", ran(p, ended(6000), true), ended(6000))
	}
}

// most: the bytes that both spaces may have together.
const most = 1 << 16

// P19.2: pattern and hold space together have at most 2^16 bytes.
func TestSpaces(t *testing.T) {
	for _, v := range []struct {
		script string
		bytes  int // of the line that is the greatest one for this
	}{
		{"", most}, {"h", most / 2}, {"G", most - 1}, {"H", (most - 1) / 2}, {"g", most}, {"x;g", most / 2}, {"x;G", (most - 1) / 2}, {"x;h", most}, {"G;G", most - 2}, {"h;G", (most - 1) / 3}, {"h;H", (most - 1) / 3}, {"h;h;h", most / 2},
		{"s/$/x/", most - 1}, {"s/$/xyz/", most - 3}, {"s/x$/yz/", most - 1}, {"s/^x*//;s/^/y/", most}, {"s/$/\\n/", most - 1}, {"x;s/$/x/", most - 1}, {"s/x/&&/2", most - 1}, {"s/^x*$/&&/", most / 2}, {"x", most}, {"y/x/z/", most}, {"p", most}, {"G;D", most - 1}, {"h;s/^x*$//", most / 2}, {"s/^x/y/g", most},
	} {
		p := parsed(t, v.script)
		if _, line, e := p.Run([]byte(times(v.bytes, "x")+"\n"), true); v.script != "G;D" && (line != 0 || e != api.OK) {
			t.Errorf("%s on %d bytes: %s", v.script, v.bytes, flawed(line, e))
		}
		told(t, fmt.Sprintf("%s on more than %d bytes", v.script, v.bytes), ran(p, times(v.bytes+1, "x")+"\n", true), stopped(1))
		told(t, fmt.Sprintf("%s on far more than %d bytes", v.script, v.bytes), ran(p, times(3*most, "x"), false), stopped(1))
	}
}

// P19.2: likewise of several lines; what was told so far is told.
func TestSpacesOfLines(t *testing.T) {
	lines := func(n ...int) string {
		var b strings.Builder
		for _, k := range n {
			b.WriteString(times(k, "x") + "\n")
		}
		return b.String()
	}
	third := most / 3
	for _, v := range []struct {
		script string
		in     string
		want   string
	}{
		{"N", lines(1, most-2), lines(1, most-2)}, {"N", lines(1, most-1), stopped(2)}, {"N", lines(most-1, 0), lines(most-1, 0)}, {"N", lines(most, 0), stopped(2)}, {"N;N", lines(0, 0, most-2), lines(0, 0, most-2)}, {"N;N", lines(0, 0, most-1), stopped(3)},
		{"h;d", lines(most/2, most/2), ""}, {"1h", lines(third, most-third), lines(third, most-third)}, {"1h", lines(third, most-third+1), lines(third) + stopped(2)}, {"1h;1n", lines(third, most-third+1), lines(third) + stopped(2)}, {"1h;n", lines(third, most-third), lines(third, most-third)}, {"1h;N", lines(10, most-22), lines(10)[:10] + "\n" + lines(most-22)}, {"1h;N", lines(10, most-20), stopped(2)},
		{"p", lines(1, most+1, 1), lines(1, 1) + stopped(2)}, {"", lines(1, 2, most, most+1, 1), lines(1, 2, most) + stopped(4)}, {"i y\nG", lines(most), "y\n" + stopped(1)}, {"a y\nG", lines(most), stopped(1)}, {"a y\nn", lines(3, most+1), lines(3) + "y\n" + stopped(2)}, {"a y\nN", lines(3, most), "y\n" + stopped(2)}, {"a y\nd", lines(3, most+1), "y\n" + stopped(2)},
		{"s/$/x/p", lines(most), stopped(1)}, {"p;s/$/x/p;p", lines(most), lines(most) + stopped(1)}, {"1h;2x", lines(third, most-third), lines(third, third)}, {"H;$!d;x", lines(20000, 20000, 5), "\n" + lines(20000, 20000, 5)}, {"H;$!d;x", lines(20000, 20000, 20000), stopped(3)}, {"N;P;D", lines(most/2-1, most/2, most/2), lines(most/2-1) + stopped(3)},
	} {
		told(t, v.script+" on "+brief(v.in), ran(parsed(t, v.script), v.in, false), v.want)
	}
}

// P19.2: a space that a replacement makes far too great.
func TestFarTooGreat(t *testing.T) {
	p, _, _ := sed.Parse("s/.*/"+times(4000, "&")+"/", false)
	told(t, "&&..", ran(p, times(16, "x")+"\n"+times(17, "x"), true), stopped(2))
	told(t, "&&.. of a long line", ran(p, times(most/8, "x"), true), stopped(1))
	tells(t, "x\n", [2]string{":a;h;G;ba", stopped(1)}, [2]string{":a;s/x/xx/g;p;ba", doubled(most/2) + stopped(1)}, [2]string{":a;G;h;ba", stopped(1)})
}

// doubled: lines of 2, 4, 8, .. x, up to so many.
func doubled(n int) string {
	s := ""
	for k := 2; k <= 2*n; k *= 2 {
		s += times(k, "x") + "\n"
	}
	return s
}
