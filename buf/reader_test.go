package buf_test

import (
	"fmt"
	"strings"
	"testing"

	"tinsel/api"
	"tinsel/buf"
	"tinsel/fault"
)

// P10.1: a reader asks for 64 bytes, when it has none left, and once more to see the end.
func TestReads(t *testing.T) {
	for _, n := range sizes {
		what := fmt.Sprint(n, " bytes")
		g := taped(t, count(n))
		r := buf.NewReader(g, in)
		reads(t, what+", not asked", g, 0)
		is(t, what+", not asked", r.Err(), api.OK)
		text(t, what, r.All(), count(n))
		reads(t, what, g, (n+63)/64+1)
		none(t, what, g, r, api.OK)
	}
}

// P10.1: Byte after Byte, and what was asked by then.
func TestBytes(t *testing.T) {
	for _, n := range sizes {
		g := taped(t, count(n))
		r := buf.NewReader(g, in)
		for i := range n {
			c, ok := r.Byte()
			if c != count(n)[i] || !ok {
				t.Fatalf("byte %d of %d: %d, %v, want %d", i, n, c, ok, count(n)[i])
			}
			same(t, fmt.Sprint("reads for byte ", i, " of ", n), g.Count("read"), i/64+1)
		}
		text(t, "behind them", r.All(), "")
		none(t, fmt.Sprint(n, " bytes"), g, r, api.OK)
		reads(t, fmt.Sprint("behind ", n, " bytes"), g, (n+63)/64+1)
	}
}

// P10.1: all bytes are told as they are.
func TestEveryByte(t *testing.T) {
	var all strings.Builder
	for c := range 256 {
		all.WriteByte(byte(c))
	}
	g := taped(t, all.String())
	r := buf.NewReader(g, in)
	for c := range 256 {
		got, ok := r.Byte()
		same(t, fmt.Sprint("byte ", c), []any{got, ok}, []any{c, true})
	}
	text(t, "behind them", r.All(), "")
	none(t, "256 bytes", g, r, api.OK)
	text(t, "All", buf.NewReader(taped(t, all.String()), in).All(), all.String())
}

// P10.1: a read asks for 64 bytes, not for more: what it left is there for another one.
func TestBlockAtATime(t *testing.T) {
	g := taped(t, count(300))
	r := buf.NewReader(g, in)
	r.Byte()
	b, e := g.Proc().Read(in, 10)
	is(t, "Read", e, api.OK)
	text(t, "past the reader", b, count(300)[64:74])
	text(t, "All", r.All(), count(300)[1:64]+count(300)[74:])
	reads(t, "All", g, 6)
	none(t, "All", g, r, api.OK)
}

// P10.1: two readers of one descriptor share its place, not what they were given.
func TestTwoReaders(t *testing.T) {
	g := taped(t, count(200))
	a, b := buf.NewReader(g, in), buf.NewReader(g, in)
	a.Byte()
	b.Byte()
	text(t, "the second one", b.All(), count(200)[65:])
	text(t, "the first one", a.All(), count(200)[1:64])
	reads(t, "both", g, 6)
}

// P10.1: lines with their ends; a last one without its end, too.
func TestLine(t *testing.T) {
	long := count(500)
	for _, l := range [][]string{
		{}, {"ab\n", "c"}, {"\n"}, {"a"}, {"a\n"}, {"\n", "\n"}, {"\n", "\n", "x"}, {"a\n", "\n", "b\n", "c\n"},
		{"\r\n", "\x00\n", "\x00"}, {"\xff\n", "\x0b\x0c\r"}, {long}, {long + "\n"}, {long + "\n", long + "\n", "z"},
		{long[:62] + "\n", "x\n"}, {long[:63] + "\n"}, {long[:63] + "\n", "x"}, {long[:64] + "\n"}, {long[:64] + "\n", "\n", "x\n"},
		{long[:31] + "\n", long[:31] + "\n", long[:127] + "\n", "\n"}, {long[:128] + "\n", long[:62] + "\n", long[:128]},
	} {
		g := taped(t, strings.Join(l, ""))
		r := buf.NewReader(g, in)
		for i, want := range l {
			b, ok := r.Line()
			line(t, fmt.Sprintf("line %d of %q", i+1, l), b, ok, want)
		}
		text(t, "behind them", r.All(), "")
		none(t, fmt.Sprintf("%q", l), g, r, api.OK)
		reads(t, fmt.Sprintf("%q", l), g, (len(strings.Join(l, ""))+63)/64+1)
	}
}

// P10.1: what a line needs is asked for, and no more.
func TestReadsOfLines(t *testing.T) {
	for _, n := range sizes[1:] {
		for _, rest := range []string{"", "x", "x\n", count(200)} {
			what := fmt.Sprintf("a line of %d bytes ahead of %d", n, len(rest))
			g := taped(t, count(n-1)+"\n"+rest)
			r := buf.NewReader(g, in)
			b, ok := r.Line()
			line(t, what, b, ok, count(n-1)+"\n")
			reads(t, what, g, (n+63)/64)
			text(t, what+": All", r.All(), rest)
			reads(t, what+": all", g, (n+len(rest)+63)/64+1)
		}
		what := fmt.Sprintf("a line of %d bytes without its end", n)
		g := taped(t, count(n))
		r := buf.NewReader(g, in)
		b, ok := r.Line()
		line(t, what, b, ok, count(n))
		reads(t, what, g, (n+63)/64+1) // the last read tells that there is no end
		none(t, what, g, r, api.OK)
	}
}

// P10.1: Until a byte, whichever.
func TestUntil(t *testing.T) {
	for _, v := range []struct {
		text string
		end  byte
		want []string
	}{
		{"ab\nc", 'b', []string{"ab", "\nc"}},
		{"ab\nc", 'a', []string{"a", "b\nc"}},
		{"ab\nc", 'c', []string{"ab\nc"}},
		{"ab\nc", 'x', []string{"ab\nc"}},
		{"ab\nc", 0, []string{"ab\nc"}},
		{"ab\nc", 10, []string{"ab\n", "c"}},
		{"\x00a\x00\x00b", 0, []string{"\x00", "a\x00", "\x00", "b"}},
		{"a\x80\xff\x7f\xff", 0xff, []string{"a\x80\xff", "\x7f\xff"}},
		{"é", 0xa9, []string{"\xc3\xa9"}},
		{"", 'a', nil},
		{"aaa", 'a', []string{"a", "a", "a"}},
		{count(100) + "\x01" + count(63) + "\x01" + count(10), 1, []string{count(100) + "\x01", count(63) + "\x01", count(10)}},
		{count(63) + "\x01\x01", 1, []string{count(63) + "\x01", "\x01"}},
		{count(64) + "\x01", 1, []string{count(64) + "\x01"}},
	} {
		what := fmt.Sprintf("%q until %d", v.text, v.end)
		g := taped(t, v.text)
		r := buf.NewReader(g, in)
		for _, want := range v.want {
			b, ok := r.Until(v.end)
			line(t, what, b, ok, want)
		}
		text(t, "behind them", r.All(), "")
		none(t, what, g, r, api.OK)
		reads(t, what, g, (len(v.text)+63)/64+1)
	}
}

// P10.1: each byte ends what Until tells of a text that has all of them.
func TestUntilEachByte(t *testing.T) {
	var all strings.Builder
	for c := range 256 {
		all.WriteByte(byte(255 - c))
	}
	for c := range 256 {
		g := taped(t, all.String())
		r := buf.NewReader(g, in)
		b, ok := r.Until(byte(c))
		line(t, fmt.Sprint("until ", c), b, ok, all.String()[:256-c])
		reads(t, fmt.Sprint("until ", c), g, (256-c+63)/64)
		text(t, "the rest", r.All(), all.String()[256-c:])
	}
}

// P10.1: one behind the other on one reader.
func TestMixed(t *testing.T) {
	long := count(150)
	g := taped(t, "ab\ncd:ef\n\n:"+long+"\nx:y")
	r := buf.NewReader(g, in)
	c, ok := r.Byte()
	same(t, "Byte", []any{c, ok}, []any{'a', true})
	b, ok := r.Line()
	line(t, "Line", b, ok, "b\n")
	b, ok = r.Until(':')
	line(t, "Until", b, ok, "cd:")
	b, ok = r.Line()
	line(t, "Line", b, ok, "ef\n")
	b, ok = r.Line()
	line(t, "Line", b, ok, "\n")
	reads(t, "a block", g, 1)
	c, ok = r.Byte()
	same(t, "Byte", []any{c, ok}, []any{':', true})
	b, ok = r.Line()
	line(t, "Line", b, ok, long+"\n")
	b, ok = r.Until(':')
	line(t, "Until", b, ok, "x:")
	reads(t, "three blocks", g, 3)
	text(t, "All", r.All(), "y")
	text(t, "All again", r.All(), "")
	none(t, "all", g, r, api.OK)
	reads(t, "all", g, 4)
}

// P10.1: All of what is left, wherever that begins.
func TestAll(t *testing.T) {
	for _, n := range sizes {
		for _, ahead := range sizes {
			if ahead > n {
				continue
			}
			g := taped(t, count(n))
			r := buf.NewReader(g, in)
			for range ahead {
				r.Byte()
			}
			what := fmt.Sprintf("all of %d behind %d", n, ahead)
			text(t, what, r.All(), count(n)[ahead:])
			reads(t, what, g, (n+63)/64+1)
			none(t, what, g, r, api.OK)
		}
	}
}

// P10.1: the end is the end: what comes behind it is not asked for.
func TestEnd(t *testing.T) {
	for _, n := range []int{0, 5, 64, 70} {
		g := taped(t, count(n))
		r := buf.NewReader(g, in)
		text(t, "All", r.All(), count(n))
		ahead := g.Calls()
		if _, e := g.Proc().Write(in, []byte("more")); e != api.OK {
			t.Fatal(e)
		}
		none(t, fmt.Sprint(n, " bytes"), g, r, api.OK)
		same(t, "calls", g.Calls(), ahead)
		text(t, "a new reader", buf.NewReader(g, in).All(), "more")
	}
	g := taped(t, count(64)) // the end was not seen yet
	r := buf.NewReader(g, in)
	for range 64 {
		r.Byte()
	}
	if _, e := g.Proc().Write(in, []byte("more")); e != api.OK {
		t.Fatal(e)
	}
	text(t, "All", r.All(), "more")
	reads(t, "All", g, 3)
}

// P10.1: of files: from the descriptor's place on.
func TestReadsOfFiles(t *testing.T) {
	for _, n := range append(sizes, 17792) {
		p := made(t)
		file(t, p, "/f", count(n))
		g := fault.New(p)
		fd := opened(t, p, "/f", api.Read)
		r := buf.NewReader(g, fd)
		text(t, fmt.Sprint(n, " bytes"), r.All(), count(n))
		reads(t, fmt.Sprint(n, " bytes"), g, (n+63)/64+1)
		none(t, fmt.Sprint(n, " bytes"), g, r, api.OK)
		at := n / 3
		if _, e := p.Seek(fd, at, api.SeekSet); e != api.OK {
			t.Fatal(e)
		}
		text(t, fmt.Sprint(n, " bytes from ", at), buf.NewReader(g, fd).All(), count(n)[at:])
	}
}

// P10.1: of a pipe: what it holds, then its end, or EAGAIN.
func TestReadsOfPipes(t *testing.T) {
	for _, n := range []int{0, 1, 63, 64, 65, 255, 256} {
		for _, open := range []bool{false, true} {
			p := made(t)
			from, to, e := p.Pipe()
			good(t, "Pipe", e)
			if _, e = p.Write(to, []byte(count(n))); e != api.OK {
				t.Fatal(e)
			}
			want := api.EAGAIN
			if !open {
				want = api.OK
				good(t, "Close", p.Close(to))
			}
			g := fault.New(p)
			r := buf.NewReader(g, from)
			what := fmt.Sprint("a pipe of ", n, " bytes, ", open)
			text(t, what, r.All(), count(n))
			reads(t, what, g, (n+63)/64+1)
			none(t, what, g, r, want)
			if open { // what comes behind the error is not asked for
				p.Write(to, []byte("more"))
				none(t, what, g, r, want)
			}
		}
	}
}

// P10.1: descriptors that tell nothing but an error.
func TestReadsOfOthers(t *testing.T) {
	p := made(t)
	file(t, p, "/f", "text")
	dir, put := opened(t, p, "/", api.Read), opened(t, p, "/f", api.Write)
	from, to, e := p.Pipe()
	good(t, "Pipe", e)
	good(t, "Close", p.Close(from))
	for fd, want := range map[int]api.Errno{dir: api.EISDIR, put: api.EBADF, to: api.EBADF, from: api.EBADF, 15: api.EBADF, 16: api.EBADF, -1: api.EBADF} {
		for i, ask := range []func(r *buf.Reader){
			func(r *buf.Reader) { r.Byte() }, func(r *buf.Reader) { r.Line() }, func(r *buf.Reader) { r.Until(0) }, func(r *buf.Reader) { r.All() },
		} {
			what := fmt.Sprint("descriptor ", fd, ", ", i)
			g := fault.New(p)
			r := buf.NewReader(g, fd)
			is(t, what+": not asked", r.Err(), api.OK)
			ask(r)
			is(t, what+": asked", r.Err(), want)
			none(t, what, g, r, want)
			reads(t, what, g, 1)
		}
	}
}
