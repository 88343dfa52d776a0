package buf_test

import (
	"fmt"
	"testing"

	"tinsel/api"
	"tinsel/buf"
	"tinsel/fault"
)

// writesAll: WriteAll answers this number and this error.
func writesAll(t *testing.T, what string, g *fault.Gate, fd int, b string, n int, e api.Errno) {
	t.Helper()
	got, err := buf.WriteAll(g, fd, []byte(b))
	same(t, what+": WriteAll", got, n)
	is(t, what+": WriteAll", err, e)
}

// P10.3: all bytes by one write, if that is not short; no bytes by none.
func TestWriteAll(t *testing.T) {
	for _, n := range append(sizes, 5000) {
		g := taped(t, "")
		what := fmt.Sprint(n, " bytes")
		writesAll(t, what, g, out, count(n), n, api.OK)
		writes(t, what, g, min(n, 1))
		tapeHas(t, what, g, out, count(n))
		writesAll(t, what+" again", g, out, count(n), n, api.OK)
		tapeHas(t, what+" again", g, out, count(n)+count(n))
	}
}

// P10.3: no bytes: no call, of whatever descriptor.
func TestWriteAllOfNothing(t *testing.T) {
	g := taped(t, "", fails("write", 1, api.EIO))
	for _, fd := range []int{out, 2, 16, -1} {
		for _, b := range [][]byte{nil, {}, make([]byte, 0, 9)} {
			n, e := buf.WriteAll(g, fd, b)
			same(t, "no bytes", []any{n, e}, []any{0, api.OK})
		}
	}
	writes(t, "no bytes", g, 0)
	given(t, g)
}

// P10.3: what is left, again and again.
func TestWriteAllShort(t *testing.T) {
	g := taped(t, "", short("write", 1, 3))
	writesAll(t, "3, then 2", g, out, "abcde", 5, api.OK)
	tapeHas(t, "3, then 2", g, out, "abcde")
	writes(t, "3, then 2", g, 2)
	for n := 1; n <= 9; n++ {
		var plan []api.Choice
		for i := range 9 {
			plan = append(plan, short("write", i+1, n))
		}
		g := taped(t, "", plan...)
		what := fmt.Sprint("at most ", n)
		writesAll(t, what, g, out, "abcdefgh", 8, api.OK)
		tapeHas(t, what, g, out, "abcdefgh")
		writes(t, what, g, (8+n-1)/n)
	}
}

// P10.3: EINTR: again, with what is left.
func TestWriteAllInterrupted(t *testing.T) {
	for _, times := range []int{1, 2, 5, 900} {
		plan := interrupted("write", 1, times)
		g := taped(t, "", append(plan, short("write", times+1, 2), fails("write", times+2, api.EINTR))...)
		what := fmt.Sprint("EINTR ", times, " times")
		writesAll(t, what, g, out, "abcde", 5, api.OK)
		tapeHas(t, what, g, out, "abcde")
		writes(t, what, g, times+3)
	}
}

// P10.3: another error: the number of those that were written stands beside it.
func TestWriteAllError(t *testing.T) {
	for _, e := range writeErrors {
		for nth := 1; nth <= 4; nth++ {
			var plan []api.Choice
			for i := 1; i < nth; i++ {
				plan = append(plan, short("write", i, 2))
			}
			g := taped(t, "", append(plan, fails("write", nth, e))...)
			what := fmt.Sprint("write ", nth, " fails by ", e)
			writesAll(t, what, g, out, "abcdefgh", 2*(nth-1), e)
			tapeHas(t, what, g, out, "abcdefgh"[:2*(nth-1)])
			writes(t, what, g, nth)
		}
	}
}

// P10.3: descriptors that take nothing.
func TestWriteAllOfOthers(t *testing.T) {
	p := made(t)
	file(t, p, "/f", "text")
	get, dir := opened(t, p, "/f", api.Read), opened(t, p, "/", api.Read)
	from, to, e := p.Pipe()
	good(t, "Pipe", e)
	for _, fd := range []int{get, dir, from, 15, 16, -1} {
		g := fault.New(p)
		writesAll(t, fmt.Sprint("descriptor ", fd), g, fd, "x", 0, api.EBADF)
		writes(t, fmt.Sprint("descriptor ", fd), g, 1)
	}
	g := fault.New(p)
	writesAll(t, "a pipe", g, to, count(100), 100, api.OK)
	writesAll(t, "a pipe", g, to, count(200), 156, api.EAGAIN)
	writesAll(t, "a full pipe", g, to, "x", 0, api.EAGAIN)
	writesAll(t, "a full pipe", g, to, "", 0, api.OK)
	writes(t, "a pipe", g, 4)
	b, e := p.Read(from, 300)
	is(t, "Read", e, api.OK)
	text(t, "a pipe", b, count(100)+count(156))
	good(t, "Close", p.Close(from))
	writesAll(t, "a pipe that nobody reads", g, to, "x", 0, api.EPIPE)
	writesAll(t, "a pipe that nobody reads", g, to, "", 0, api.OK)
	writes(t, "a pipe", g, 5)
}

// P10.3: a file that takes no more, and a file system that has no block left.
func TestWriteAllFull(t *testing.T) {
	p := made(t)
	g := fault.New(p)
	writesAll(t, "a file", g, opened(t, p, "/f", api.Write|api.Create), count(17800), 17792, api.EFBIG)
	writes(t, "a file", g, 2)
	writesAll(t, "a file", g, opened(t, p, "/g", api.Write|api.Create), count(17792), 17792, api.OK)
	fd := opened(t, p, "/h", api.Write|api.Create)
	_, free, _, _ := p.Statfs()
	if free < 1 || free > api.Direct { // so that each one takes bytes
		t.Fatal(free, " blocks are left")
	}
	writesAll(t, "a full file system", g, fd, count(1000), 64*free, api.ENOSPC)
	b, e := buf.ReadFile(g, "/h")
	is(t, "ReadFile", e, api.OK)
	text(t, "a full file system", b, count(64*free))
}
