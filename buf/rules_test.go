package buf_test

import (
	"bytes"
	"fmt"
	"math"
	"strings"
	"sync"
	"testing"

	"tinsel/api"
	"tinsel/buf"
	"tinsel/desc"
	"tinsel/fault"
)

// The chapter's examples.
func TestExamples(t *testing.T) {
	g := taped(t, "ab\nc")
	r := buf.NewReader(g, in)
	b, ok := r.Line()
	line(t, "Line", b, ok, "ab\n")
	b, ok = r.Line()
	line(t, "Line", b, ok, "c")
	b, ok = r.Line()
	same(t, "Line", []any{len(b), ok}, []any{0, false})
	b, ok = buf.NewReader(taped(t, "ab\nc"), in).Until(98)
	line(t, "Until", b, ok, "ab")
	g = taped(t, count(100))
	text(t, "100 bytes", buf.NewReader(g, in).All(), count(100))
	reads(t, "100 bytes", g, 3)
	g = taped(t, "")
	w := buf.NewWriter(g, out)
	w.Text(count(60))
	w.Text(count(10))
	state(t, "60 and 10 bytes", w, 70, api.OK)
	writes(t, "60 and 10 bytes", g, 1)
	g = taped(t, count(100), fails("read", 2, api.EIO))
	r = buf.NewReader(g, in)
	text(t, "EIO", r.All(), count(64))
	is(t, "EIO", r.Err(), api.EIO)
}

// noGates: gates that no call made.
func noGates() []*fault.Gate {
	plan := []api.Choice{fails("read", 1, api.EINTR), fails("write", 1, api.EINTR), fails("open", 1, api.EINTR), fails("open", 2, api.EIO)}
	return []*fault.Gate{nil, {}, new(fault.Gate), fault.New(nil), fault.New(nil, plan...), fault.New(&desc.Proc{}, plan...)}
}

// Of a gate that no call made the error that sticks is EFAULT, from the first
// call that would ask it: a reader.
func TestReaderOfNoGate(t *testing.T) {
	for i, g := range noGates() {
		for _, fd := range []int{0, 1, -1, 16, math.MaxInt} {
			for k, ask := range []func(r *buf.Reader) (int, bool){
				func(r *buf.Reader) (int, bool) { c, ok := r.Byte(); return int(c), ok },
				func(r *buf.Reader) (int, bool) { b, ok := r.Line(); return len(b), ok },
				func(r *buf.Reader) (int, bool) { b, ok := r.Until(0); return len(b), ok },
				func(r *buf.Reader) (int, bool) { return len(r.All()), false },
			} {
				what := fmt.Sprint("gate ", i, ", descriptor ", fd, ", call ", k)
				r := buf.NewReader(g, fd)
				is(t, what+", not asked", r.Err(), api.OK)
				n, ok := ask(r)
				same(t, what, []any{n, ok}, []any{0, false})
				none(t, what, g, r, api.EFAULT)
			}
			seq := buf.Lines(g, fd)
			same(t, "Lines", told(seq, -1), pairs(api.EFAULT))
			same(t, "Lines again", told(seq, -1), "")
		}
		for _, path := range []string{"", "/", "/f", "a\x00", strings.Repeat("a", 300)} {
			b, e := buf.ReadFile(g, path)
			text(t, "ReadFile", b, "")
			is(t, "ReadFile", e, api.EFAULT)
		}
		same(t, "calls", g.Calls(), 0)
	}
}

// And a writer.
func TestWriterOfNoGate(t *testing.T) {
	for i, g := range noGates() {
		for _, fd := range []int{0, 1, -1, 16, math.MaxInt} {
			what := fmt.Sprint("gate ", i, ", descriptor ", fd)
			w := buf.NewWriter(g, fd)
			is(t, what+": Flush of nothing", w.Flush(), api.OK)
			w.Text(count(63))
			w.Write(nil)
			state(t, what+", kept", w, 0, api.OK)
			w.Text("x")
			state(t, what+", written", w, 0, api.EFAULT)
			w.Write([]byte(count(200)))
			is(t, what+": Flush", w.Flush(), api.EFAULT)
			state(t, what, w, 0, api.EFAULT)
			w = buf.NewWriter(g, fd)
			w.Write([]byte("x"))
			is(t, what+", kept", w.Err(), api.OK)
			is(t, what+": Flush", w.Flush(), api.EFAULT)
			state(t, what, w, 0, api.EFAULT)
			writesAll(t, what, g, fd, "", 0, api.OK)
			writesAll(t, what, g, fd, "x", 0, api.EFAULT)
			writesAll(t, what, g, fd, count(100), 0, api.EFAULT)
		}
		same(t, "calls", g.Calls(), 0)
	}
}

// R5: readers and writers that no call made tell nothing, and EFAULT.
func TestNoObjects(t *testing.T) {
	g := taped(t, "")
	for i, r := range []*buf.Reader{nil, {}, new(buf.Reader)} {
		is(t, "Err", r.Err(), api.EFAULT)
		none(t, fmt.Sprint("reader ", i), g, r, api.EFAULT)
	}
	for i, w := range []*buf.Writer{nil, {}, new(buf.Writer)} {
		what := fmt.Sprint("writer ", i)
		state(t, what, w, 0, api.EFAULT)
		is(t, what+": Flush", w.Flush(), api.EFAULT)
		for _, n := range []int{0, 1, 63, 64, 200} {
			w.Write([]byte(count(n)))
			w.Text(count(n))
			state(t, what, w, 0, api.EFAULT)
		}
		is(t, what+": Flush", w.Flush(), api.EFAULT)
		state(t, what, w, 0, api.EFAULT)
	}
	same(t, "calls", g.Calls(), 0)
}

// R1: descriptors that may not be, at every call.
func TestOddDescriptors(t *testing.T) {
	for _, fd := range []int{math.MinInt, -2, -1, 2, 15, 16, 17, 1 << 40, math.MaxInt} {
		g := taped(t, count(100))
		what := fmt.Sprint("descriptor ", fd)
		r := buf.NewReader(g, fd)
		same(t, what, len(r.All()), 0)
		none(t, what, g, r, api.EBADF)
		same(t, what, told(buf.Lines(g, fd), -1), pairs(api.EBADF))
		w := buf.NewWriter(g, fd)
		w.Text(count(200))
		state(t, what, w, 0, api.EBADF)
		writesAll(t, what, g, fd, "x", 0, api.EBADF)
		same(t, what, g.Fds(), []int{in, out})
	}
}

// R1: great inputs.
func TestGreat(t *testing.T) {
	const n = 1 << 21
	great := strings.Repeat("x", n)
	g := taped(t, great+"\n"+great)
	r := buf.NewReader(g, in)
	b, ok := r.Line()
	line(t, "a great line", b, ok, great+"\n")
	text(t, "All", r.All(), great)
	reads(t, "all", g, n/64*2+2)
	w := buf.NewWriter(g, out)
	w.Text("kept")
	w.Text(great)
	w.Write([]byte(great))
	state(t, "a great text", w, 2*n+4, api.OK)
	tapeHas(t, "a great text", g, out, "kept"+great+great)
	g = taped(t, strings.Repeat("\n", 100000))
	lines := 0
	for b := range buf.Lines(g, in) {
		lines += len(b)
	}
	same(t, "empty lines", lines, 100000)
}

// spoil: a list, and the room behind its end, are changed.
func spoil(b []byte) {
	b = b[:cap(b)]
	for i := range b {
		b[i] = 'X'
	}
}

// R3: what a reader tells is memory of its own.
func TestToldIsNew(t *testing.T) {
	all := strings.Repeat("ab\ncd:ef\n", 40)
	for _, way := range []string{"line", "until", "mixed", "all"} {
		r := buf.NewReader(taped(t, all), in)
		var got strings.Builder
		var kept [][]byte
		for i := 0; ; i++ {
			b, ok := r.Line()
			if way == "until" || way == "mixed" && i%2 == 1 {
				spoil(b)
				b, ok = r.Until(':')
			}
			if way == "all" {
				spoil(b)
				b = r.All()
				ok = len(b) > 0
			}
			if !ok {
				break
			}
			kept = append(kept, bytes.Clone(b), b)
			got.Write(b)
			if i%3 == 0 {
				spoil(b)
				kept = kept[:len(kept)-2]
			}
		}
		if way == "line" {
			same(t, way, got.String(), all)
		}
		if got.Len() == 0 || strings.Contains(got.String(), "X") {
			t.Errorf("%s: a list was shared: %s", way, brief(got.String()))
		}
		for i := 0; i < len(kept); i += 2 {
			if !bytes.Equal(kept[i], kept[i+1]) {
				t.Errorf("%s: %q became %q", way, kept[i], kept[i+1])
			}
		}
	}
}

// R3: likewise of Lines and of ReadFile, and the bytes of descriptors are not touched.
func TestToldByOthersIsNew(t *testing.T) {
	all := strings.Repeat("ab\ncd:ef\n", 40)
	g := taped(t, all)
	var kept [][]byte
	var got strings.Builder
	for b := range buf.Lines(g, in) {
		got.Write(b)
		kept = append(kept, b)
		if len(kept) > 1 {
			spoil(kept[len(kept)-2])
		}
	}
	same(t, "Lines", got.String(), all)
	text(t, "the last line", kept[len(kept)-1], "cd:ef\n")
	tapeHas(t, "Lines", g, in, all)
	g = withFile(t, all)
	for range 3 {
		b, e := buf.ReadFile(g, "/f")
		is(t, "ReadFile", e, api.OK)
		text(t, "ReadFile", b, all)
		spoil(b)
	}
}

// R3: what is handed in is not changed, and may be changed behind the call.
func TestGivenIsNotKept(t *testing.T) {
	for _, n := range []int{1, 10, 63, 64, 65, 200} {
		for _, kept := range []int{0, 1, 63} {
			what := fmt.Sprint(n, " bytes behind ", kept)
			g := taped(t, "", short("write", 1, 3), fails("write", 2, api.EINTR))
			w := buf.NewWriter(g, out)
			w.Text(count(kept))
			room := []byte(count(n) + "room behind the end")
			w.Write(room[:n])
			text(t, what+": what was handed in", room, count(n)+"room behind the end")
			spoil(room)
			is(t, what, w.Flush(), api.OK)
			tapeHas(t, what, g, out, count(kept)+count(n))
			text(t, what+": what was handed in", room, strings.Repeat("X", len(room)))
			room = []byte(count(n) + "room behind the end")
			got, e := buf.WriteAll(g, out, room[:n])
			same(t, what, []any{got, e}, []any{n, api.OK})
			text(t, what+": what was handed in", room, count(n)+"room behind the end")
			spoil(room)
			tapeHas(t, what, g, out, count(kept)+count(n)+count(n))
		}
	}
}

// R3: lists with much room are not written into while bytes are kept.
func TestRoomOfMany(t *testing.T) {
	g := taped(t, "")
	w := buf.NewWriter(g, out)
	one := make([]byte, 10, 500)
	copy(one, count(10))
	for range 20 {
		w.Write(one)
	}
	is(t, "Flush", w.Flush(), api.OK)
	text(t, "the list", one[:500], count(10)+strings.Repeat("\x00", 490))
	tapeHas(t, "all", g, out, strings.Repeat(count(10), 20))
}

// R4: what many do at once, each with objects of its own, is what one does.
func TestManyAtOnce(t *testing.T) {
	var all sync.WaitGroup
	for i := range 16 {
		gate := taped(t, strings.Repeat(count(i*7)+"\n", 50), short("read", 2, i+1), fails("write", 3, api.EINTR))
		all.Go(func() {
			w := buf.NewWriter(gate, out)
			lines := 0
			for b, e := range buf.Lines(gate, in) {
				if e == api.OK {
					lines++
				}
				w.Write(b)
			}
			w.Flush()
			b, e := gate.Taped(out)
			if lines != 50 || e != api.OK || string(b) != strings.Repeat(count(i*7)+"\n", 50) || w.Written() != len(b) {
				t.Errorf("%d: %d lines, %d bytes, %v", i, lines, len(b), e)
			}
		})
	}
	all.Wait()
}

// R4: the same calls answer the same.
func TestAgain(t *testing.T) {
	var first string
	for i := range 20 {
		g := taped(t, count(99)+"\n"+count(77), short("read", 1, 5), fails("read", 4, api.EIO))
		got := told(buf.Lines(g, in), -1) + fmt.Sprint(g.Given(), g.Calls())
		if i == 0 {
			first = got
		}
		same(t, "again", got, first)
	}
}
