package buf_test

import (
	"fmt"
	"slices"
	"strings"
	"testing"

	"tinsel/api"
	"tinsel/buf"
	"tinsel/fault"
)

// pairs: lines as told tells them, and behind them an error, unless it is OK.
func pairs(err api.Errno, lines ...string) string {
	var l []string
	for _, s := range lines {
		l = append(l, fmt.Sprintf("%q 0", s))
	}
	if err != api.OK {
		l = append(l, fmt.Sprintf(`"" %d`, int(err)))
	}
	return strings.Join(l, ", ")
}

// P10.4: line by line, each with OK, and nothing behind the last one.
func TestLines(t *testing.T) {
	long := count(200)
	for _, l := range [][]string{
		{}, {"\n"}, {"a"}, {"a\n"}, {"ab\n", "c"}, {"\n", "\n", "x\n"}, {long + "\n", "\n", long}, {long[:63] + "\n"}, {long[:63] + "\n", long[:63] + "\n", "\x00"},
	} {
		what := fmt.Sprintf("%q", l)
		all := strings.Join(l, "")
		g := taped(t, all)
		seq := buf.Lines(g, in)
		reads(t, what+", not gone over", g, 0)
		same(t, what, told(seq, -1), pairs(api.OK, l...))
		reads(t, what, g, (len(all)+63)/64+1)
		same(t, what+" again", told(seq, -1), "")
		reads(t, what+" again", g, (len(all)+63)/64+1)
	}
}

// P10.4: it reads as it is gone over: what was not come to is not asked for.
func TestLinesReadAsTheyGo(t *testing.T) {
	l := []string{count(9) + "\n", count(53) + "\n", count(63) + "\n", count(100) + "\n", "x"}
	g := taped(t, strings.Join(l, ""))
	i := 0
	for b, e := range buf.Lines(g, in) {
		text(t, "a line", b, l[i])
		is(t, "a line", e, api.OK)
		reads(t, fmt.Sprint("line ", i+1), g, []int{1, 1, 2, 4, 5}[i]) // 64, 128, 229, 230 bytes, and the end
		i++
	}
	same(t, "lines", i, len(l))
}

// P10.4: left early, a second time goes on there; each going over by itself.
func TestLinesLeft(t *testing.T) {
	l := []string{"a\n", "\n", "c\n", "d\n", "e"}
	for first := 1; first <= 5; first++ {
		for second := 1; second <= 5; second++ {
			seq := buf.Lines(taped(t, strings.Join(l, "")), in)
			same(t, "the first time", told(seq, first), pairs(api.OK, l[:first]...))
			same(t, "the second time", told(seq, second), pairs(api.OK, l[first:min(first+second, 5)]...))
			same(t, "the third time", told(seq, -1), pairs(api.OK, l[min(first+second, 5):]...))
			same(t, "the fourth time", told(seq, -1), "")
		}
	}
}

// P10.4: nested, the inner one goes on where the outer one is.
func TestLinesNested(t *testing.T) {
	g := taped(t, "1\n2\n3\n4\n5\n6\n7")
	seq := buf.Lines(g, in)
	var got []string
	for a := range seq {
		got = append(got, string(a))
		for b := range seq {
			got = append(got, " "+string(b))
			break
		}
	}
	same(t, "nested", fmt.Sprintf("%q", got), `["1\n" " 2\n" "3\n" " 4\n" "5\n" " 6\n" "7"]`)
	seq = buf.Lines(taped(t, "1\n2\n3\n", fails("read", 2, api.EIO)), in)
	got = nil
	for a, e := range seq {
		got = append(got, fmt.Sprint(string(a), int(e)), told(seq, -1))
	}
	same(t, "nested to the end", fmt.Sprintf("%q", got), fmt.Sprintf("%q", []string{"1\n0", pairs(api.EIO, "2\n", "3\n")}))
}

// P10.4: two of one descriptor share its place alone.
func TestLinesTwice(t *testing.T) {
	g := taped(t, strings.Repeat(count(31)+"\n", 6)) // two lines a block
	a, b := buf.Lines(g, in), buf.Lines(g, in)
	one := count(31) + "\n"
	same(t, "the first one", told(a, 1), pairs(api.OK, one))
	same(t, "the second one", told(b, -1), pairs(api.OK, one, one, one, one))
	same(t, "the first one", told(a, -1), pairs(api.OK, one))
}

// P10.4: an error that sticks is told behind the last line, once.
func TestLinesError(t *testing.T) {
	for _, e := range readErrors {
		for nth := 1; nth <= 4; nth++ {
			what := fmt.Sprint("read ", nth, " fails by ", e)
			var l []string
			for i := 0; i < nth-1; i++ {
				l = append(l, count(39)+"\n", count(23)+"\n")
			}
			g := taped(t, strings.Repeat(count(39)+"\n"+count(23)+"\n", 5), fails("read", nth, e))
			seq := buf.Lines(g, in)
			same(t, what, told(seq, -1), pairs(e, l...))
			reads(t, what, g, nth)
			same(t, what+", again", told(seq, -1), "")
			reads(t, what+", again", g, nth)
		}
	}
	g := taped(t, count(30)+"\n"+count(100)+"\n", fails("read", 2, api.EIO)) // in a line
	same(t, "in a line", told(buf.Lines(g, in), -1), pairs(api.EIO, count(30)+"\n", count(33)))
}

// P10.4: left ahead of the error, or at it.
func TestLinesErrorLeft(t *testing.T) {
	for most := 1; most <= 3; most++ {
		g := taped(t, "ab\n"+count(100), fails("read", 2, api.EIO))
		seq := buf.Lines(g, in)
		all := []string{pairs(api.OK, "ab\n"), pairs(api.OK, count(61)), pairs(api.EIO)}
		same(t, "the first time", told(seq, most), strings.Join(all[:most], ", "))
		same(t, "the second time", told(seq, -1), strings.Join(all[most:], ", "))
		same(t, "the third time", told(seq, -1), "")
		reads(t, "the error", g, 2)
	}
}

// P10.4: what is told behind the last line beside the error is nil.
func TestLinesErrorIsBare(t *testing.T) {
	for b, e := range buf.Lines(taped(t, "", fails("read", 1, api.EIO)), in) {
		is(t, "Lines", e, api.EIO)
		if b != nil {
			t.Errorf("%q beside an error", b)
		}
	}
}

// P10.4: descriptors that can't be read; pipes; EINTR and short reads.
func TestLinesOfOthers(t *testing.T) {
	p := made(t)
	dir := opened(t, p, "/", api.Read)
	from, to, e := p.Pipe()
	good(t, "Pipe", e)
	p.Write(to, []byte("a\nb"))
	g := fault.New(p)
	same(t, "a directory", told(buf.Lines(g, dir), -1), pairs(api.EISDIR))
	same(t, "not open", told(buf.Lines(g, 15), -1), pairs(api.EBADF))
	same(t, "the other end", told(buf.Lines(g, to), -1), pairs(api.EBADF))
	seq := buf.Lines(g, from)
	same(t, "a pipe", told(seq, -1), pairs(api.EAGAIN, "a\n", "b"))
	p.Write(to, []byte("c\n"))
	same(t, "a pipe again", told(seq, -1), "")
	good(t, "Close", p.Close(to))
	same(t, "a pipe without its other end", told(buf.Lines(g, from), -1), pairs(api.OK, "c\n"))
	plan := append(interrupted("read", 1, 2), short("read", 3, 1), short("read", 4, 3), fails("read", 5, api.EINTR))
	g = taped(t, "ab\ncd\n\ne", plan...)
	same(t, "short reads", told(buf.Lines(g, in), -1), pairs(api.OK, "ab\n", "cd\n", "\n", "e"))
	given(t, g, plan...)
}

// P10.4: gone over by library functions, which leave it as they like.
func TestLinesAsAnIterator(t *testing.T) {
	seq := buf.Lines(taped(t, "a\nb\nc\n"), in)
	var got []string
	seq(func(b []byte, e api.Errno) bool {
		got = append(got, string(b))
		return len(got) < 2
	})
	for b := range seq {
		got = append(got, string(b))
	}
	if !slices.Equal(got, []string{"a\n", "b\n", "c\n"}) {
		t.Errorf("%q", got)
	}
}
