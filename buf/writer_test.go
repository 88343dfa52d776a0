package buf_test

import (
	"fmt"
	"testing"

	"tinsel/api"
	"tinsel/buf"
	"tinsel/fault"
)

// P10.2: bytes given at once: less than a block is kept, others are written by one call.
func TestWriteAtOnce(t *testing.T) {
	for _, n := range append(sizes, 5000) {
		for _, asText := range []bool{false, true} {
			what := fmt.Sprint(n, " bytes at once, ", asText)
			g := taped(t, "")
			w := buf.NewWriter(g, out)
			if asText {
				w.Text(count(n))
			} else {
				w.Write([]byte(count(n)))
			}
			by := 0
			if n >= 64 {
				by = 1
			}
			writes(t, what, g, by)
			state(t, what, w, by*n, api.OK)
			tapeHas(t, what, g, out, count(n)[:by*n])
			for range 2 {
				is(t, what+": Flush", w.Flush(), api.OK)
				state(t, what+": Flush", w, n, api.OK)
				tapeHas(t, what+": Flush", g, out, count(n))
				writes(t, what+": Flush", g, min(n, 1))
			}
		}
	}
}

// P10.2: bytes given one by one: each full block is written.
func TestWriteOneByOne(t *testing.T) {
	for _, n := range sizes {
		what := fmt.Sprint(n, " bytes one by one")
		g := taped(t, "")
		w := buf.NewWriter(g, out)
		for i := range n {
			w.Write([]byte{count(n)[i]})
			state(t, what, w, (i+1)/64*64, api.OK)
			writes(t, what, g, (i+1)/64)
		}
		tapeHas(t, what, g, out, count(n)[:n/64*64])
		is(t, what+": Flush", w.Flush(), api.OK)
		state(t, what+": Flush", w, n, api.OK)
		tapeHas(t, what+": Flush", g, out, count(n))
		writes(t, what+": Flush", g, (n+63)/64)
	}
}

// P10.2: what is kept and what comes are written together, once.
func TestWriteTogether(t *testing.T) {
	for kept := range 64 {
		for _, n := range sizes {
			what := fmt.Sprint(kept, " bytes, then ", n)
			all := count(kept + n)
			g := taped(t, "")
			w := buf.NewWriter(g, out)
			w.Text(all[:kept])
			w.Text(all[kept:])
			if kept+n < 64 {
				state(t, what, w, 0, api.OK)
				writes(t, what, g, 0)
			} else {
				state(t, what, w, kept+n, api.OK)
				writes(t, what, g, 1)
				tapeHas(t, what, g, out, all)
			}
			w.Text("end")
			is(t, what+": Flush", w.Flush(), api.OK)
			tapeHas(t, what+": Flush", g, out, all+"end")
			same(t, what+": Written", w.Written(), kept+n+3)
		}
	}
}

// P10.2: nothing is given, or nothing is kept: no call.
func TestWriteNothing(t *testing.T) {
	g := taped(t, "")
	for _, fd := range []int{out, 15, -1} {
		w := buf.NewWriter(g, fd)
		is(t, "Flush", w.Flush(), api.OK)
		w.Write(nil)
		w.Write([]byte{})
		w.Text("")
		is(t, "Flush", w.Flush(), api.OK)
		is(t, "Flush", w.Flush(), api.OK)
		state(t, "nothing", w, 0, api.OK)
	}
	writes(t, "nothing", g, 0)
	w := buf.NewWriter(g, out)
	w.Text(count(63))
	w.Text("")
	w.Write(nil)
	writes(t, "63 bytes and nothing", g, 0)
}

// P10.2: what is given behind Flush is kept anew.
func TestFlush(t *testing.T) {
	g := taped(t, "")
	w := buf.NewWriter(g, out)
	want := ""
	for i := range 200 {
		w.Text(count(i % 7))
		want += count(i % 7)
		is(t, "Flush", w.Flush(), api.OK)
		state(t, fmt.Sprint("Flush ", i), w, len(want), api.OK)
		tapeHas(t, fmt.Sprint("Flush ", i), g, out, want)
	}
	writes(t, "Flush", g, 200-29) // each seventh one has nothing
	w.Text(count(63))
	writes(t, "63 bytes", g, 200-29)
	w.Text("x")
	writes(t, "64 bytes", g, 200-28)
	tapeHas(t, "64 bytes", g, out, want+count(63)+"x")
}

// P10.2: all bytes, as they are; Write and Text in turn.
func TestWriteEveryByte(t *testing.T) {
	g := taped(t, "")
	w := buf.NewWriter(g, out)
	var want []byte
	for c := range 256 {
		b := []byte{byte(c), byte(255 - c)}
		w.Write(b[:1])
		w.Text(string(b[1:]))
		want = append(want, b...)
	}
	state(t, "512 bytes", w, 512, api.OK)
	tapeHas(t, "512 bytes", g, out, string(want))
	writes(t, "512 bytes", g, 8)
}

// P10.2: to files: at the descriptor's place; at the end, if it appends.
func TestWriteFiles(t *testing.T) {
	for _, flags := range []int{api.Write, api.Read | api.Write, api.Write | api.Append} {
		p := made(t)
		file(t, p, "/f", count(100))
		fd := opened(t, p, "/f", flags)
		g := fault.New(p)
		w := buf.NewWriter(g, fd)
		for range 30 {
			w.Text("0123456789")
		}
		is(t, "Flush", w.Flush(), api.OK)
		state(t, "300 bytes", w, 300, api.OK)
		writes(t, "300 bytes", g, 5) // of 70 bytes, the last one of 20
		want := ""
		for range 30 {
			want += "0123456789"
		}
		if flags&api.Append != 0 {
			want = count(100) + want
		}
		b, e := buf.ReadFile(fault.New(p), "/f")
		is(t, "ReadFile", e, api.OK)
		text(t, "ReadFile", b, want)
	}
}

// P10.2: a file that takes no more: the last short write is gone on with, and
// that one fails.
func TestWriteFullFile(t *testing.T) {
	p := made(t)
	file(t, p, "/f", count(17700))
	g := fault.New(p)
	w := buf.NewWriter(g, opened(t, p, "/f", api.Write|api.Append))
	w.Text(count(60))
	w.Text(count(60)) // 92 bytes fit
	state(t, "too many", w, 92, api.EFBIG)
	writes(t, "too many", g, 2)
	w.Text(count(100))
	is(t, "Flush", w.Flush(), api.EFBIG)
	writes(t, "too many", g, 2)
	b, e := buf.ReadFile(fault.New(p), "/f")
	is(t, "ReadFile", e, api.OK)
	text(t, "ReadFile", b, count(17700)+count(60)+count(32))
}
