package fault_test

import (
	"fmt"
	"math"
	"testing"

	"tinsel/api"
	"tinsel/fault"
)

// P8.2: a read that asks for less.
func TestShortRead(t *testing.T) {
	for _, v := range []struct {
		fd        int
		first, at string // what is read of three bytes, and behind that
	}{{file, "234", "56789"}, {tape, "the", " tape"}, {source, "in ", "the pipe"}} {
		c := short("read", 1, 3)
		g := fault.New(busy(t), c)
		gets(t, g, v.fd, 10, v.first)
		given(t, g, c)
		gets(t, g, v.fd, 99, v.at)
		given(t, g, c)
		counted(t, g, 2, map[string]int{"read": 2})
	}
}

// P8.2: of every number of bytes, and every Short.
func TestShortReadOfAny(t *testing.T) {
	rest := map[int]string{file: "23456789", tape: "the tape", source: "in the pipe"}
	for fd, all := range rest {
		for _, most := range []int{1, 2, 3, 7, 8, 9, 11, 12, 300, math.MaxInt} {
			for _, n := range []int{0, 1, 2, 3, 4, 7, 8, 9, 11, 12, 13, 500, math.MaxInt} {
				c := short("read", 1, most)
				g := fault.New(busy(t), c)
				k := min(n, most, len(all))
				gets(t, g, fd, n, all[:k])
				given(t, g, c)
				if k < len(all) {
					gets(t, g, fd, 99, all[k:])
				}
			}
		}
	}
}

// P8.2: a Short of none or less is never given.
func TestShortOfNothing(t *testing.T) {
	for _, n := range []int{0, -1, -3, math.MinInt} {
		g := fault.New(busy(t), short("read", 1, n), short("write", 1, n))
		gets(t, g, tape, 8, "the tape")
		puts(t, g, tape, "four", 4)
		given(t, g)
		g = fault.New(busy(t), short("read", 1, n), short("read", 1, 2), short("write", 1, n), short("write", 1, 3))
		gets(t, g, tape, 8, "th")
		puts(t, g, tape, "four", 3)
		given(t, g, short("read", 1, 2), short("write", 1, 3))
	}
}

// P8.2: what may not be asked for, or of whom, is refused by the process, and
// the choice is given all the same.
func TestShortReadRefused(t *testing.T) {
	for _, v := range []struct {
		fd, n int
		want  api.Errno
	}{
		{file, -1, api.EINVAL}, {tape, -1, api.EINVAL}, {source, -5, api.EINVAL}, {file, math.MinInt, api.EINVAL},
		{shut, 5, api.EBADF}, {-1, 5, api.EBADF}, {16, -1, api.EBADF}, {math.MaxInt, 5, api.EBADF},
		{sink, 5, api.EBADF}, {end, 5, api.EBADF}, {dir, 5, api.EISDIR},
	} {
		c := short("read", 1, 3)
		g := fault.New(busy(t), c)
		noGet(t, g, v.fd, v.n, v.want)
		given(t, g, c)
		gets(t, g, file, 5, "23456")
	}
	c := short("read", 2, 3)
	g := fault.New(busy(t), c)
	gets(t, g, source, 99, "in the pipe")
	noGet(t, g, source, 5, api.EAGAIN)
	given(t, g, c)
	is(t, "Close", g.Close(sink), api.OK)
	gets(t, g, source, 5, "")
}

// P8.2: a write that hands on less.
func TestShortWrite(t *testing.T) {
	c := short("write", 1, 3)
	g := fault.New(busy(t), c)
	puts(t, g, file, "abcdef", 3)
	given(t, g, c)
	place(t, g, file, 5)
	holds(t, g, "/f", "01abc56789")
	put(t, g, file, "def")
	place(t, g, file, 8)
	holds(t, g, "/f", "01abcdef89")

	g = fault.New(busy(t), c)
	puts(t, g, end, "abcdef", 3)
	place(t, g, end, 13)
	holds(t, g, "/f", "0123456789abc")
	put(t, g, end, "def")
	holds(t, g, "/f", "0123456789abcdef")

	g = fault.New(busy(t), c)
	puts(t, g, tape, "abcdef", 3)
	onTape(t, g, tape, "on the tapeabc")
	gets(t, g, tape, 99, "the tapeabc")
	put(t, g, tape, "def")
	onTape(t, g, tape, "on the tapeabcdef")

	g = fault.New(busy(t), c)
	puts(t, g, sink, "abcdef", 3)
	put(t, g, sink, "def")
	gets(t, g, source, 99, "in the pipeabcdef")
	given(t, g, c)
	counted(t, g, 3, map[string]int{"write": 2, "read": 1})
}

// P8.2: of every number of bytes, and every Short.
func TestShortWriteOfAny(t *testing.T) {
	for _, most := range []int{1, 2, 3, 9, 244, 245, 246, 255, 256, 300, math.MaxInt} {
		for _, n := range []int{0, 1, 2, 3, 4, 10, 244, 245, 246, 300} {
			c := short("write", 1, most)
			k := min(n, most)
			text := count(n)
			g := fault.New(busy(t), c)
			puts(t, g, tape, text, k)
			onTape(t, g, tape, "on the tape"+text[:k])
			given(t, g, c)

			g = fault.New(busy(t), c)
			puts(t, g, end, text, k)
			holds(t, g, "/f", "0123456789"+text[:k])
			given(t, g, c)

			g = fault.New(busy(t), c)
			puts(t, g, sink, text, min(k, 245)) // as many as fit behind the 11 that are in it
			gets(t, g, source, 300, "in the pipe"+text[:min(k, 245)])
			given(t, g, c)
		}
	}
}

// P8.2: what the process refuses, it refuses of less bytes, too.
func TestShortWriteRefused(t *testing.T) {
	for _, v := range []struct {
		fd   int
		want api.Errno
	}{{shut, api.EBADF}, {-1, api.EBADF}, {16, api.EBADF}, {math.MinInt, api.EBADF}, {source, api.EBADF}, {dir, api.EBADF}} {
		c := short("write", 1, 2)
		g := fault.New(busy(t), c)
		noPut(t, g, v.fd, "abc", v.want)
		given(t, g, c)
		puts(t, g, tape, "abc", 3)
	}
	c := short("write", 2, 2)
	g := fault.New(busy(t), c)
	puts(t, g, sink, count(300), 245)
	noPut(t, g, sink, "abc", api.EAGAIN)
	given(t, g, c)
	is(t, "Close", g.Close(source), api.OK)
	noPut(t, g, sink, "abc", api.EPIPE)
}

// P8.2: a file that is nearly as large as one can be: a short write may fit
// where the whole one would not, or goes as far.
func TestShortWriteAtTheEnd(t *testing.T) {
	for _, left := range []int{0, 1, 2, 3, 5} {
		for _, most := range []int{1, 2, 3, 4, 9} {
			p, g := busy(t), fault.New(busy(t), short("write", 1, most))
			for _, x := range []caller{p, g.Proc()} {
				_, e := x.Seek(file, api.MaxFile-left, api.SeekSet)
				good(t, "Seek", e)
			}
			got := do(g, step{call: "write", fd: file, bytes: "abcde"})
			want := do(p, step{call: "write", fd: file, bytes: "abcde"[:min(most, 5)]})
			what := fmt.Sprint(left, " left, short ", most)
			same(t, what, got, want)
			same(t, what, state(g.Proc()), state(p))
		}
	}
}
