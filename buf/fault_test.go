package buf_test

import (
	"fmt"
	"slices"
	"testing"

	"tinsel/api"
	"tinsel/buf"
	"tinsel/fault"
)

// P10.5: a read that was short is gone on with.
func TestShortReads(t *testing.T) {
	for _, n := range []int{1, 2, 63, 64, 65, 1000} {
		for nth := 1; nth <= 4; nth++ {
			c := short("read", nth, n)
			g := taped(t, count(180), c)
			r := buf.NewReader(g, in)
			what := fmt.Sprint("read ", nth, " of at most ", n)
			text(t, what, r.All(), count(180))
			given(t, g, c)
			none(t, what, g, r, api.OK)
			want := 1 // that tells the end
			for rest := 180; rest > 0; want++ {
				most := 64
				if want == nth {
					most = min(n, 64)
				}
				rest -= min(most, rest)
			}
			reads(t, what, g, want)
		}
	}
	var plan []api.Choice
	for i := range 100 {
		plan = append(plan, short("read", i+1, 1))
	}
	g := taped(t, "ab\n\ncd\n"+count(90), plan...)
	r := buf.NewReader(g, in)
	for i, want := range []string{"ab\n", "\n", "cd\n"} {
		b, ok := r.Line()
		line(t, "byte by byte", b, ok, want)
		reads(t, fmt.Sprint("line ", i+1), g, []int{3, 4, 7}[i])
	}
	b, ok := r.Line()
	line(t, "the last one", b, ok, count(90))
	none(t, "byte by byte", g, r, api.OK)
	reads(t, "byte by byte", g, 98)
}

// P10.1: a read that answers EINTR is asked again, as often as it does.
func TestInterruptedReads(t *testing.T) {
	for _, times := range []int{1, 2, 3, 10, 900} {
		for nth := 1; nth <= 4; nth++ {
			what := fmt.Sprint("EINTR ", times, " times from read ", nth, " on")
			plan := interrupted("read", nth, times)
			g := taped(t, count(130)+"\n"+count(30), plan...)
			r := buf.NewReader(g, in)
			b, ok := r.Line()
			line(t, what, b, ok, count(130)+"\n")
			text(t, what, r.All(), count(30))
			reads(t, what, g, 4+times)
			given(t, g, plan...)
			none(t, what, g, r, api.OK)
		}
	}
	g := taped(t, "ab", slices.Concat(interrupted("read", 1, 2), []api.Choice{short("read", 3, 1)}, interrupted("read", 4, 1), interrupted("read", 6, 3))...)
	r := buf.NewReader(g, in)
	c, ok := r.Byte()
	same(t, "the first Byte", []any{c, ok, g.Calls()}, []any{'a', true, 3})
	c, ok = r.Byte()
	same(t, "the second Byte", []any{c, ok, g.Calls()}, []any{'b', true, 5})
	c, ok = r.Byte()
	same(t, "the third Byte", []any{c, ok, g.Calls()}, []any{0, false, 9})
	none(t, "the end", g, r, api.OK)
}

// P10.1, P10.6: another error sticks; what came ahead of it is told.
func TestErrorStops(t *testing.T) {
	for nth := 1; nth <= 4; nth++ {
		had := count(200)[:64*(nth-1)]
		if nth == 4 {
			had = count(192)
		}
		for _, e := range readErrors {
			c := fails("read", nth, e)
			what := fmt.Sprint("read ", nth, " fails by ", e)
			for _, way := range []string{"all", "line", "until", "byte", "mixed"} {
				g := taped(t, count(200), c)
				r := buf.NewReader(g, in)
				text(t, what+": "+way, drained(r, way), had)
				is(t, what, r.Err(), e)
				given(t, g, c)
				none(t, what, g, r, e)
				reads(t, what, g, nth) // though the next one would go
			}
		}
	}
}

// drained: all that a reader tells, by calls of one kind.
func drained(r *buf.Reader, way string) []byte {
	var all []byte
	for i := 0; ; i++ {
		var b []byte
		ok := true
		switch {
		case way == "all":
			return r.All()
		case way == "line" || way == "mixed" && i%3 == 1:
			b, ok = r.Line()
		case way == "until" || way == "mixed" && i%3 == 2:
			b, ok = r.Until('#')
		default:
			var c byte
			if c, ok = r.Byte(); ok {
				b = []byte{c}
			}
		}
		if !ok {
			return all
		}
		all = append(all, b...)
	}
}

// P10.6: an error in the middle of a line: what came of it is told as a last
// line, the error sticks by then, and then there is none.
func TestErrorInALine(t *testing.T) {
	text := "ab\n" + count(100) + "\nrest\n"
	g := taped(t, text, fails("read", 2, api.EIO))
	r := buf.NewReader(g, in)
	b, ok := r.Line()
	line(t, "the first line", b, ok, "ab\n")
	is(t, "ahead of it", r.Err(), api.OK)
	b, ok = r.Line()
	line(t, "the second line", b, ok, count(61))
	is(t, "behind it", r.Err(), api.EIO)
	none(t, "behind it", g, r, api.EIO)
	reads(t, "behind it", g, 2)

	g = taped(t, text, short("read", 1, 3), interrupted("read", 2, 1)[0], short("read", 3, 1), fails("read", 4, api.EIO))
	r = buf.NewReader(g, in)
	b, ok = r.Line()
	line(t, "the first line", b, ok, "ab\n")
	reads(t, "the first line", g, 1)
	b, ok = r.Line()
	line(t, "the second line", b, ok, count(1))
	none(t, "short", g, r, api.EIO)
	reads(t, "short", g, 4)

	g = taped(t, count(63)+"\nx", fails("read", 2, api.EIO)) // just behind a line
	r = buf.NewReader(g, in)
	b, ok = r.Line()
	line(t, "a block's line", b, ok, count(63)+"\n")
	is(t, "ahead of it", r.Err(), api.OK)
	b, ok = r.Line()
	same(t, "no line", []any{len(b), ok}, []any{0, false})
	none(t, "no line", g, r, api.EIO)
}

// P10.1: an error at the very end sticks, too.
func TestErrorAtTheEnd(t *testing.T) {
	g := taped(t, "ab\n", fails("read", 2, api.EIO))
	r := buf.NewReader(g, in)
	b, ok := r.Line()
	line(t, "Line", b, ok, "ab\n")
	is(t, "not asked", r.Err(), api.OK)
	same(t, "All", len(r.All()), 0)
	none(t, "asked", g, r, api.EIO)
	reads(t, "asked", g, 2)
}

// P10.2: short writes are gone on with; Written counts them all.
func TestWriterShort(t *testing.T) {
	for n := 1; n <= 70; n++ {
		g := taped(t, "", short("write", 1, n), short("write", 2, n))
		w := buf.NewWriter(g, out)
		w.Text(count(200))
		what := fmt.Sprint("twice at most ", n)
		state(t, what, w, 200, api.OK)
		tapeHas(t, what, g, out, count(200))
		writes(t, what, g, 3)
	}
}

// P10.2: EINTR is asked again.
func TestWriterInterrupted(t *testing.T) {
	for _, times := range []int{1, 2, 7, 900} {
		g := taped(t, "", interrupted("write", 2, times)...)
		w := buf.NewWriter(g, out)
		w.Text(count(100))
		w.Text(count(10))
		is(t, "Flush", w.Flush(), api.OK)
		state(t, "EINTR", w, 110, api.OK)
		tapeHas(t, "EINTR", g, out, count(100)+count(10))
		writes(t, fmt.Sprint("EINTR ", times, " times"), g, 2+times)
	}
}

// P10.2, P10.6: another error sticks: what is given behind it is lost, and no
// call is made.
func TestWriterError(t *testing.T) {
	for _, e := range writeErrors {
		for nth := 1; nth <= 4; nth++ {
			what := fmt.Sprint("write ", nth, " fails by ", e)
			g := taped(t, "", fails("write", nth, e))
			w := buf.NewWriter(g, out)
			for i := 1; i <= 6; i++ {
				w.Text(count(70))
				if i < nth {
					state(t, what, w, 70*i, api.OK)
				} else {
					state(t, what, w, 70*(nth-1), e)
				}
			}
			w.Write([]byte("x"))
			w.Text("")
			w.Write([]byte(count(700)))
			for range 2 {
				is(t, what+": Flush", w.Flush(), e)
				state(t, what, w, 70*(nth-1), e)
			}
			writes(t, what, g, nth)
			var want string
			for range nth - 1 {
				want += count(70)
			}
			tapeHas(t, what, g, out, want)
		}
	}
}

// P10.6: Written tells how far it came within one write.
func TestWriterErrorWithin(t *testing.T) {
	g := taped(t, "", short("write", 1, 30), fails("write", 2, api.EINTR), short("write", 3, 5), fails("write", 4, api.ENOSPC))
	w := buf.NewWriter(g, out)
	w.Text(count(60))
	state(t, "kept", w, 0, api.OK)
	w.Text(count(10))
	state(t, "failed", w, 35, api.ENOSPC)
	tapeHas(t, "failed", g, out, count(35))
	w.Text(count(100))
	is(t, "Flush", w.Flush(), api.ENOSPC)
	state(t, "behind it", w, 35, api.ENOSPC)
	writes(t, "behind it", g, 4)
}

// P10.2: an error at Flush; what was kept is not written later.
func TestFlushError(t *testing.T) {
	g := taped(t, "", fails("write", 1, api.EIO))
	w := buf.NewWriter(g, out)
	w.Text("kept")
	is(t, "ahead of it", w.Err(), api.OK)
	is(t, "Flush", w.Flush(), api.EIO)
	is(t, "Flush", w.Flush(), api.EIO)
	w.Text("more")
	is(t, "Flush", w.Flush(), api.EIO)
	state(t, "Flush", w, 0, api.EIO)
	writes(t, "Flush", g, 1)
	tapeHas(t, "Flush", g, out, "")
	w = buf.NewWriter(g, out) // another one is not concerned
	w.Text("other")
	is(t, "Flush", w.Flush(), api.OK)
	tapeHas(t, "another one", g, out, "other")
}

// P10.2: descriptors that take nothing, or not all.
func TestWriterOfOthers(t *testing.T) {
	p := made(t)
	file(t, p, "/f", "text")
	get := opened(t, p, "/f", api.Read)
	from, to, e := p.Pipe()
	good(t, "Pipe", e)
	for fd, want := range map[int]api.Errno{get: api.EBADF, from: api.EBADF, 15: api.EBADF, 16: api.EBADF, -1: api.EBADF} {
		what := fmt.Sprint("descriptor ", fd)
		g := fault.New(p)
		w := buf.NewWriter(g, fd)
		w.Text(count(63))
		state(t, what+", kept", w, 0, api.OK)
		is(t, what+": Flush", w.Flush(), want)
		state(t, what, w, 0, want)
		w = buf.NewWriter(g, fd)
		w.Text(count(64))
		state(t, what, w, 0, want)
		writes(t, what, g, 2)
	}
	g := fault.New(p)
	w := buf.NewWriter(g, to)
	w.Text(count(300))
	state(t, "a pipe", w, 256, api.EAGAIN)
	b, e := p.Read(from, 300)
	is(t, "Read", e, api.OK)
	text(t, "a pipe", b, count(256))
	w.Text(count(100)) // it is empty by now, but the error sticks
	is(t, "a pipe: Flush", w.Flush(), api.EAGAIN)
	state(t, "a pipe", w, 256, api.EAGAIN)
	writes(t, "a pipe", g, 2)
	good(t, "Close", p.Close(from))
	w = buf.NewWriter(g, to)
	w.Text(count(64))
	state(t, "a pipe that nobody reads", w, 0, api.EPIPE)
}
