package buf_test

import (
	"fmt"
	"math/rand"
	"strings"
	"testing"

	"tinsel/api"
	"tinsel/buf"
	"tinsel/fault"
)

// pond is the model of a reader: all that will come, how many reads were
// asked when the bytes up to a place had come, and the error at last.
type pond struct {
	bytes string
	at    int
	asked []int // for each byte
	total int   // with the read that tells the end, or the error
	err   api.Errno
	ended bool
}

// filled: the pond of a text and a plan, reckoned read by read.
func filled(all string, plan []api.Choice) *pond {
	p := &pond{}
	for nth, from := 1, 0; ; nth++ {
		p.total = nth
		most := api.Block
		var e api.Errno
		for _, c := range plan {
			if c.Call == "read" && c.Nth == nth {
				if c.Short > 0 && c.Errno == api.OK {
					most = min(most, c.Short)
				}
				e = c.Errno
				break
			}
		}
		if e == api.EINTR {
			continue
		}
		n := min(most, len(all)-from)
		if e != api.OK || n == 0 {
			p.err = e
			return p
		}
		p.bytes += all[from : from+n]
		from += n
		for range n {
			p.asked = append(p.asked, nth)
		}
	}
}

// take: so many bytes; unless they are whole, the end had to be seen to tell them.
func (p *pond) take(n int, whole bool) string {
	s := p.bytes[p.at : p.at+n]
	p.at += n
	p.ended = p.ended || !whole
	return s
}

// one: what an op tells.
func (p *pond) one(op string) string {
	rest := p.bytes[p.at:]
	n, whole := 0, false
	switch op {
	case "byte":
		n, whole = min(1, len(rest)), len(rest) > 0
	case "line":
		n, whole = cut(rest, "\n")
	case "until":
		n, whole = cut(rest, "\x00")
	case "all":
		n = len(rest)
	}
	s := p.take(n, whole)
	return fmt.Sprintf("%q %v", s, op == "all" || n > 0)
}

// cut: how many bytes stand up to end, and whether it is there.
func cut(s, end string) (int, bool) {
	if i := strings.Index(s, end); i >= 0 {
		return i + 1, true
	}
	return len(s), false
}

// state: the error that is to be seen by now, and how many reads were asked.
func (p *pond) state() string {
	switch {
	case p.ended:
		return fmt.Sprint(int(p.err), p.total)
	case p.at == 0:
		return "0 0"
	}
	return fmt.Sprint(0, p.asked[p.at-1])
}

// asks: the same, of a reader.
func asks(r *buf.Reader, op string) string {
	b, ok := []byte(nil), true
	switch op {
	case "byte":
		var c byte
		if c, ok = r.Byte(); ok {
			b = []byte{c}
		}
	case "line":
		b, ok = r.Line()
	case "until":
		b, ok = r.Until(0)
	case "all":
		b = r.All()
	}
	return fmt.Sprintf("%q %v", b, ok)
}

var readOps = []string{"byte", "line", "until", "all"}

// follow: a reader and its model go the same way.
func follow(t *testing.T, all string, plan []api.Choice, ops []string) {
	t.Helper()
	g := taped(t, all, plan...)
	r, p := buf.NewReader(g, in), filled(all, plan)
	for i, op := range ops {
		got, want := asks(r, op), p.one(op)
		if state := fmt.Sprint(int(r.Err()), g.Calls()); got != want || state != p.state() {
			t.Errorf("%s, plan %v, %s (%d): %s, %s, want %s, %s", brief(all), plan, op, i, brief(got), state, brief(want), p.state())
			return
		}
	}
}

// everyOps: the lists of n of these.
func everyOps(ops []string, n int) [][]string {
	all := [][]string{nil}
	for range n {
		var next [][]string
		for _, l := range all {
			for _, op := range ops {
				next = append(next, append(l[:len(l):len(l)], op))
			}
		}
		all = next
	}
	return all
}

// P10.1, P10.5, P10.6: all short ways over texts and plans of which something changes.
func TestReaderModel(t *testing.T) {
	texts := []string{"", "a", "\n", "\x00", "a\n\x00b", "\n\n\x00\x00", "ab\x00\ncd", count(63) + "\n", count(63) + "\x00\n", count(64) + "\n\x00x", count(130) + "\nb\x00" + count(70)}
	plans := [][]api.Choice{
		nil,
		{short("read", 1, 1)},
		{short("read", 1, 2), short("read", 2, 1), short("read", 3, 1)},
		{fails("read", 1, api.EINTR)},
		{short("read", 1, 1), fails("read", 2, api.EINTR), fails("read", 3, api.EINTR), short("read", 4, 63)},
		{fails("read", 1, api.EIO)},
		{fails("read", 2, api.EIO)},
		{fails("read", 3, api.EIO)},
		{short("read", 1, 3), fails("read", 2, api.EINTR), fails("read", 3, api.EIO)},
		{short("read", 1, 1), short("read", 2, 1), fails("read", 3, api.EIO)},
	}
	for _, ops := range everyOps(readOps, 4) {
		for _, all := range texts {
			for _, plan := range plans {
				follow(t, all, plan, ops)
			}
		}
	}
}

// anyPlan: choices for calls of a name, as they come.
func anyPlan(by *rand.Rand, call string, errors []api.Errno) []api.Choice {
	var plan []api.Choice
	for nth := 1; nth < 40; nth++ {
		switch by.Intn(12) {
		case 0, 1:
			plan = append(plan, fails(call, nth, api.EINTR))
		case 2, 3, 4:
			plan = append(plan, short(call, nth, 1+by.Intn(70)))
		case 5:
			if by.Intn(4) == 0 {
				plan = append(plan, fails(call, nth, errors[by.Intn(len(errors))]))
			}
		}
	}
	return plan
}

// anyText: letters with some ends among them.
func anyText(by *rand.Rand, most int) string {
	b := make([]byte, by.Intn(most+1))
	rare := 1 + by.Intn(80)
	for i := range b {
		b[i] = "\n\x00"[by.Intn(2)]
		if by.Intn(rare) != 0 {
			b[i] = byte('a' + i%26)
		}
	}
	return string(b)
}

// P10.1, P10.5, P10.6: and many longer ways.
func TestReaderModelLong(t *testing.T) {
	by := rand.New(rand.NewSource(10))
	for range 4000 {
		var ops []string
		for range 1 + by.Intn(60) {
			op := readOps[by.Intn(3)]
			if by.Intn(40) == 0 {
				op = "all"
			}
			ops = append(ops, op)
		}
		follow(t, anyText(by, 400), anyPlan(by, "read", readErrors), ops)
	}
}

// sink is the model of a writer: what is on the tape, what is kept.
type sink struct {
	plan  []api.Choice
	tape  string
	kept  string
	calls int
	err   api.Errno
}

// write: one call of the gate; how many bytes it took.
func (s *sink) write(b string) (int, api.Errno) {
	s.calls++
	n := len(b)
	for _, c := range s.plan {
		if c.Nth == s.calls {
			if c.Errno != api.OK {
				return 0, c.Errno
			}
			n = min(n, c.Short)
			break
		}
	}
	s.tape += b[:n]
	return n, api.OK
}

// empty: all that is kept goes, or the error comes.
func (s *sink) empty() {
	for s.kept != "" && s.err == api.OK {
		n, e := s.write(s.kept)
		s.kept = s.kept[n:]
		if e != api.EINTR {
			s.err = e
		}
	}
	s.kept = ""
}

// give: bytes, which are lost behind an error.
func (s *sink) give(b string) {
	if s.err == api.OK {
		s.kept += b
	}
	if len(s.kept) >= api.Block {
		s.empty()
	}
}

// pour: a writer and its model are given the same; a piece of -1 is Flush.
func pour(t *testing.T, pieces []int, plan []api.Choice) {
	t.Helper()
	g := taped(t, "", plan...)
	w, s := buf.NewWriter(g, out), &sink{plan: plan}
	all := ""
	for i, n := range pieces {
		switch piece := count(max(n, 0)); {
		case n < 0:
			s.empty()
			is(t, fmt.Sprintf("%v, plan %v: Flush", pieces, plan), w.Flush(), s.err)
		case i%2 == 0:
			w.Text(piece)
			s.give(piece)
			all += piece
		default:
			w.Write([]byte(piece))
			s.give(piece)
			all += piece
		}
		b, _ := g.Taped(out)
		got, want := fmt.Sprint(len(b), w.Written(), int(w.Err()), g.Calls()), fmt.Sprint(len(s.tape), len(s.tape), int(s.err), s.calls)
		if got != want || string(b) != s.tape || !strings.HasPrefix(all, s.tape) {
			t.Errorf("%v, plan %v, piece %d: %s, want %s", pieces, plan, i, got, want)
			return
		}
	}
}

// P10.2, P10.5, P10.6: all short ways of giving.
func TestWriterModel(t *testing.T) {
	pieces := []int{-1, 0, 1, 40, 63, 64, 65, 150}
	plans := [][]api.Choice{
		nil,
		{short("write", 1, 1)},
		{fails("write", 1, api.EINTR), short("write", 2, 64), fails("write", 3, api.EINTR)},
		{fails("write", 1, api.EIO)},
		{fails("write", 2, api.ENOSPC)},
		{short("write", 1, 20), fails("write", 2, api.EFBIG)},
		{short("write", 1, 20), fails("write", 2, api.EINTR), short("write", 3, 20), fails("write", 4, api.EIO)},
	}
	for a := range pieces {
		for b := range pieces {
			for c := range pieces {
				for d := range pieces {
					for _, plan := range plans {
						pour(t, []int{pieces[a], pieces[b], pieces[c], pieces[d]}, plan)
					}
				}
			}
		}
	}
}

// P10.2, P10.5, P10.6: and many longer ones.
func TestWriterModelLong(t *testing.T) {
	by := rand.New(rand.NewSource(11))
	for range 3000 {
		var pieces []int
		most := []int{3, 40, 70, 200}[by.Intn(4)]
		for range 1 + by.Intn(60) {
			pieces = append(pieces, by.Intn(most+2)-1)
		}
		pour(t, pieces, anyPlan(by, "write", writeErrors))
	}
}

// P10.3: WriteAll, by the model of a writer that is given all at once.
func TestWriteAllModel(t *testing.T) {
	by := rand.New(rand.NewSource(12))
	for range 3000 {
		plan := anyPlan(by, "write", writeErrors)
		s := &sink{plan: plan, kept: count(by.Intn(500))}
		b := s.kept
		s.empty()
		g := taped(t, "", plan...)
		n, e := buf.WriteAll(g, out, []byte(b))
		if got, want := fmt.Sprint(n, int(e), g.Calls()), fmt.Sprint(len(s.tape), int(s.err), s.calls); got != want {
			t.Fatalf("%d bytes, plan %v: %s, want %s", len(b), plan, got, want)
		}
		tapeHas(t, "WriteAll", g, out, s.tape)
	}
}

// P10.5: whole: what goes through a reader and a writer is the same, whatever
// is short or interrupted.
func TestWhole(t *testing.T) {
	by := rand.New(rand.NewSource(13))
	for range 1000 {
		all := anyText(by, 600)
		mild := []api.Errno{api.EINTR} // none that sticks
		g := taped(t, all, append(anyPlan(by, "read", mild), anyPlan(by, "write", mild)...)...)
		r, w := buf.NewReader(g, in), buf.NewWriter(g, out)
		for ok := true; ok; {
			var b []byte
			if b, ok = r.Until("\n\x00az"[by.Intn(4)]); by.Intn(2) == 0 {
				w.Write(b)
			} else {
				w.Text(string(b))
			}
		}
		is(t, "Err", r.Err(), api.OK)
		is(t, "Flush", w.Flush(), api.OK)
		same(t, "Written", w.Written(), len(all))
		tapeHas(t, "whole", g, out, all)
	}
}

// P10.4: ReadFile, by the model of a reader.
func TestReadFileModel(t *testing.T) {
	by := rand.New(rand.NewSource(14))
	p := made(t)
	for range 1500 {
		all := anyText(by, 400)
		file(t, p, "/f", all)
		plan := anyPlan(by, "read", readErrors)
		m := filled(all, plan)
		if m.err != api.OK {
			all = ""
		}
		readsFile(t, fmt.Sprint("plan ", plan), fault.New(p, plan...), "/f", all, m.err, 1, m.total, 1)
	}
}
