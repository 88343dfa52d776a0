package buf_test

import (
	"fmt"
	"iter"
	"strings"
	"testing"

	"tinsel/api"
	"tinsel/buf"
	"tinsel/desc"
	"tinsel/fault"
	"tinsel/tree"
)

// The calls, with the signatures that the chapter lists.
var (
	_ func(*fault.Gate, int) *buf.Reader                  = buf.NewReader
	_ func(*buf.Reader) (byte, bool)                      = (*buf.Reader).Byte
	_ func(*buf.Reader) ([]byte, bool)                    = (*buf.Reader).Line
	_ func(*buf.Reader, byte) ([]byte, bool)              = (*buf.Reader).Until
	_ func(*buf.Reader) []byte                            = (*buf.Reader).All
	_ func(*buf.Reader) api.Errno                         = (*buf.Reader).Err
	_ func(*fault.Gate, int) *buf.Writer                  = buf.NewWriter
	_ func(*buf.Writer, []byte)                           = (*buf.Writer).Write
	_ func(*buf.Writer, string)                           = (*buf.Writer).Text
	_ func(*buf.Writer) api.Errno                         = (*buf.Writer).Flush
	_ func(*buf.Writer) api.Errno                         = (*buf.Writer).Err
	_ func(*buf.Writer) int                               = (*buf.Writer).Written
	_ func(*fault.Gate, int) iter.Seq2[[]byte, api.Errno] = buf.Lines
	_ func(*fault.Gate, string) ([]byte, api.Errno)       = buf.ReadFile
	_ func(*fault.Gate, int, []byte) (int, api.Errno)     = buf.WriteAll
)

// The sizes at which something changes, as bytes come by blocks of 64.
var sizes = []int{0, 1, 2, 36, 63, 64, 65, 100, 127, 128, 129, 191, 192, 193, 640, 1000}

// The errors that a read, and those that a write may fail by, and that stick.
var (
	readErrors  = []api.Errno{api.EIO}
	writeErrors = []api.Errno{api.EIO, api.ENOSPC, api.EFBIG}
)

// fails: the choice that the nth call of a name fails so.
func fails(call string, nth int, e api.Errno) api.Choice {
	return api.Choice{Call: call, Nth: nth, Errno: e}
}

// short: the choice that the nth call of a name moves at most n bytes.
func short(call string, nth, n int) api.Choice {
	return api.Choice{Call: call, Nth: nth, Short: n}
}

// interrupted: the choices that so many calls of a name fail by EINTR, from the nth one on.
func interrupted(call string, nth, times int) []api.Choice {
	var l []api.Choice
	for i := range times {
		l = append(l, fails(call, nth+i, api.EINTR))
	}
	return l
}

// count: n bytes that tell where they stand, none of them 0, 10, or above 200.
func count(n int) string {
	var b strings.Builder
	for i := range n {
		b.WriteByte(byte(i%167) + 33)
	}
	return b.String()
}

// brief: a text quoted, or how it begins and how long it is.
func brief(s string) string {
	if len(s) <= 300 {
		return fmt.Sprintf("%q", s)
	}
	return fmt.Sprintf("%q.. (%d bytes)", s[:300], len(s))
}

// same: are they told alike?
func same(t *testing.T, what string, got, want any) {
	t.Helper()
	if a, b := fmt.Sprintf("%+v", got), fmt.Sprintf("%+v", want); a != b {
		t.Errorf("%s: %s, want %s", what, brief(a), brief(b))
	}
}

// text: a text that a call answered.
func text(t *testing.T, what string, got []byte, want string) {
	t.Helper()
	if string(got) != want {
		t.Errorf("%s: %s, want %s", what, brief(string(got)), brief(want))
	}
}

func is(t *testing.T, what string, got, want api.Errno) {
	t.Helper()
	if got != want {
		t.Errorf("%s: %d (%v), want %d (%v)", what, int(got), got, int(want), want)
	}
}

// good: a call that all else in a test hangs on.
func good(t *testing.T, what string, e api.Errno) {
	t.Helper()
	if e != api.OK {
		t.Fatalf("%s: %d (%v)", what, int(e), e)
	}
}

// made: root's process on a new file system, without descriptors.
func made(t *testing.T) *desc.Proc {
	t.Helper()
	fs, e := tree.New(600, 40)
	good(t, "tree.New", e)
	fs.Clock(50)
	p, e := desc.New(fs, api.Cred{})
	good(t, "desc.New", e)
	return p
}

// The descriptors of a gate that taped answers.
const in, out = 0, 1

// taped: a gate with two tapes: in, with these bytes, and out, an empty one.
func taped(t *testing.T, bytes string, plan ...api.Choice) *fault.Gate {
	t.Helper()
	p := made(t)
	_, e := p.Tape([]byte(bytes))
	good(t, "Tape", e)
	_, e = p.Tape(nil)
	good(t, "Tape", e)
	return fault.New(p, plan...)
}

// tapeHas: what was written to a tape by now.
func tapeHas(t *testing.T, what string, g *fault.Gate, fd int, want string) {
	t.Helper()
	b, e := g.Taped(fd)
	good(t, "Taped", e)
	text(t, what+": the tape", b, want)
}

// file: a file of these bytes, made past the gate.
func file(t *testing.T, p *desc.Proc, path, bytes string) {
	t.Helper()
	fd, e := p.Open(path, api.Write|api.Create|api.Trunc, 0o666)
	good(t, "Open", e)
	n, e := p.Write(fd, []byte(bytes))
	good(t, "Write", e)
	same(t, "bytes of "+path, n, len(bytes))
	good(t, "Close", p.Close(fd))
}

// opened: a descriptor of a file, opened past the gate.
func opened(t *testing.T, p *desc.Proc, path string, flags int) int {
	t.Helper()
	fd, e := p.Open(path, flags, 0o666)
	good(t, "Open", e)
	return fd
}

// reads, writes: how many the gate saw.
func reads(t *testing.T, what string, g *fault.Gate, want int) {
	t.Helper()
	same(t, what+": reads", g.Count("read"), want)
	same(t, what+": calls", g.Calls(), want)
}

func writes(t *testing.T, what string, g *fault.Gate, want int) {
	t.Helper()
	same(t, what+": writes", g.Count("write"), want)
	same(t, what+": calls", g.Calls(), want)
}

// given: the choices that were given by now.
func given(t *testing.T, g *fault.Gate, want ...api.Choice) {
	t.Helper()
	same(t, "Given", g.Given(), append([]api.Choice{}, want...))
}

// line: Line, or Until, tells these bytes, and true.
func line(t *testing.T, what string, b []byte, ok bool, want string) {
	t.Helper()
	text(t, what, b, want)
	if !ok {
		t.Errorf("%s: false", what)
	}
}

// none: no call of the reader tells anything, and none asks for more.
func none(t *testing.T, what string, g *fault.Gate, r *buf.Reader, err api.Errno) {
	t.Helper()
	ahead := g.Calls()
	for range 2 {
		if c, ok := r.Byte(); c != 0 || ok {
			t.Errorf("%s: Byte: %d, %v behind all", what, c, ok)
		}
		if b, ok := r.Line(); len(b) != 0 || ok {
			t.Errorf("%s: Line: %q, %v behind all", what, b, ok)
		}
		for _, end := range []byte{0, 10, 255} {
			if b, ok := r.Until(end); len(b) != 0 || ok {
				t.Errorf("%s: Until(%d): %q, %v behind all", what, end, b, ok)
			}
		}
		if b := r.All(); len(b) != 0 {
			t.Errorf("%s: All: %q behind all", what, b)
		}
		is(t, what+": Err", r.Err(), err)
	}
	same(t, what+": calls behind all", g.Calls(), ahead)
}

// state: a writer's Written and Err.
func state(t *testing.T, what string, w *buf.Writer, written int, err api.Errno) {
	t.Helper()
	same(t, what+": Written", w.Written(), written)
	is(t, what+": Err", w.Err(), err)
}

// told: what Lines tells, till at most so many pairs were told.
func told(seq iter.Seq2[[]byte, api.Errno], most int) string {
	var l []string
	for b, e := range seq {
		l = append(l, fmt.Sprintf("%q %d", b, int(e)))
		if len(l) == most {
			break
		}
	}
	return strings.Join(l, ", ")
}
