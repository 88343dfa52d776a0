package desc_test

import (
	"fmt"
	"math"
	"strings"
	"testing"

	"tinsel/api"
	"tinsel/desc"
)

// taped: all that is on a tape.
func taped(t *testing.T, p *desc.Proc, fd int, want string) {
	t.Helper()
	if b, e := p.Taped(fd); string(b) != want || e != api.OK {
		t.Errorf("Taped(%d): %s, %v, want %s", fd, brief(string(b)), e, brief(want))
	}
}

// P7.3, P7.4, P7.5: tapes.

func TestTape(t *testing.T) {
	p := made(t)
	fd, e := p.Tape([]byte("abcdef"))
	number(t, "Tape", fd, e, 0)
	gets(t, p, 0, 2, "ab")
	put(t, p, 0, "gh") // behind all that is there, not where it is read
	gets(t, p, 0, 3, "cde")
	gets(t, p, 0, 0, "")
	gets(t, p, 0, 100, "fgh")
	gets(t, p, 0, 100, "")
	gets(t, p, 0, 1, "")
	put(t, p, 0, "")
	gets(t, p, 0, 1, "")
	put(t, p, 0, "ij") // what is written at its end is read, too
	gets(t, p, 0, 1, "i")
	taped(t, p, 0, "abcdefghij")
	gets(t, p, 0, math.MaxInt, "j")
	gets(t, p, 0, math.MaxInt, "")
	taped(t, p, 0, "abcdefghij")
	size(t, p, 0, 10)
	noGet(t, p, 0, -1, api.EINVAL)
	noGet(t, p, 0, math.MinInt, api.EINVAL)
	taped(t, p, 0, "abcdefghij")
}

func TestTapeEmpty(t *testing.T) {
	p := made(t)
	for i, b := range [][]byte{nil, {}, make([]byte, 0, 9)} {
		fd, e := p.Tape(b)
		number(t, "Tape", fd, e, i)
		gets(t, p, fd, 5, "")
		taped(t, p, fd, "")
		size(t, p, fd, 0)
		noGet(t, p, fd, -1, api.EINVAL)
		put(t, p, fd, "x")
		gets(t, p, fd, 5, "x")
		taped(t, p, fd, "x")
	}
}

// A tape has no end but memory's: more than a pipe, more than a file.
func TestTapeLong(t *testing.T) {
	p := made(t)
	was := picture(p.FS())
	text := strings.Repeat(count(1000), 40)
	tape(t, p, text[:20000])
	put(t, p, 0, text[20000:])
	taped(t, p, 0, text)
	gets(t, p, 0, 39999, text[:39999])
	gets(t, p, 0, 2, text[39999:])
	same(t, "outside the file system", picture(p.FS()), was)
}

// Each tape is its own; Dup's descriptors are of one.
func TestTapeShared(t *testing.T) {
	p := made(t)
	tape(t, p, "abc")
	tape(t, p, "abc")
	d := dup(t, p, 0)
	gets(t, p, 0, 1, "a")
	gets(t, p, d, 1, "b")
	put(t, p, d, "d")
	good(t, "Close", p.Close(0))
	gets(t, p, d, 9, "cd")
	taped(t, p, d, "abcd")
	gets(t, p, 1, 9, "abc")
	taped(t, p, 1, "abc")
}

func TestTapedRefuses(t *testing.T) {
	p := made(t)
	open(t, p, "/f", rw|create)
	open(t, p, "/", rd)
	pipe(t, p)
	tape(t, p, "x")
	for fd := range 4 {
		b, e := p.Taped(fd)
		none(t, fmt.Sprint("Taped ", fd), len(b), e, api.EINVAL)
	}
	for _, fd := range noFd {
		b, e := p.Taped(fd)
		none(t, fmt.Sprint("Taped ", fd), len(b), e, api.EBADF)
	}
	good(t, "Close", p.Close(4))
	b, e := p.Taped(4)
	none(t, "closed", len(b), e, api.EBADF)
}

func TestTapeTooMany(t *testing.T) {
	p := full(t)
	refused(t, "Tape", p, api.EMFILE, func() api.Errno {
		fd, e := p.Tape([]byte("x"))
		none(t, "Tape", fd, e, e)
		return e
	})
	good(t, "Close", p.Close(6))
	same(t, "the free one", tape(t, p, "x"), 6)
}

// P7.3, P7.4, P7.5: pipes.

func TestPipe(t *testing.T) {
	p := made(t)
	was := picture(p.FS())
	r, w, e := p.Pipe()
	same(t, "Pipe", []int{r, w, int(e)}, []int{0, 1, 0})
	noGet(t, p, r, 5, api.EAGAIN)
	noGet(t, p, r, 1, api.EAGAIN)
	gets(t, p, r, 0, "") // nothing was asked for
	put(t, p, w, "abc")
	gets(t, p, r, 0, "")
	gets(t, p, r, 2, "ab")
	put(t, p, w, "")
	put(t, p, w, "de")
	gets(t, p, r, math.MaxInt, "cde") // what it holds
	noGet(t, p, r, math.MaxInt, api.EAGAIN)
	put(t, p, w, "f")
	good(t, "Close", p.Close(w))
	gets(t, p, r, 5, "f") // that is left
	gets(t, p, r, 5, "")  // and then there is the end
	gets(t, p, r, 0, "")
	gets(t, p, r, 1, "")
	same(t, "outside the file system", picture(p.FS()), was)
}

func TestPipeFull(t *testing.T) {
	p := made(t)
	r, w := pipe(t, p)
	text := count(300)
	puts(t, p, w, text, 256)
	noPut(t, p, w, "x", api.EAGAIN)
	noPut(t, p, w, text, api.EAGAIN)
	put(t, p, w, "") // of nothing all fits
	size(t, p, w, 256)
	gets(t, p, r, 1, text[:1])
	puts(t, p, w, "xyz", 1)
	noPut(t, p, w, "yz", api.EAGAIN)
	gets(t, p, r, 3, text[1:4])
	put(t, p, w, "yz")
	put(t, p, w, "!")
	noPut(t, p, w, "?", api.EAGAIN)
	gets(t, p, r, 1000, text[4:256]+"xyz!")
	noGet(t, p, r, 1, api.EAGAIN)
	put(t, p, w, text[:255])
	puts(t, p, w, "ab", 1)
	gets(t, p, r, 256, text[:255]+"a")
	put(t, p, w, text[:256])
	gets(t, p, r, 257, text[:256])
}

// Through a small window much can go, in order.
func TestPipeLong(t *testing.T) {
	p := made(t)
	r, w := pipe(t, p)
	text := strings.Repeat(count(777), 5)
	sent, got := 0, ""
	for step := 1; len(got) < len(text); step++ {
		n, e := p.Write(w, []byte(text[sent:min(len(text), sent+step%97)]))
		if e != api.OK && e != api.EAGAIN {
			t.Fatal(e)
		}
		sent += n
		b, e := p.Read(r, step%89)
		if e != api.OK && e != api.EAGAIN {
			t.Fatal(e)
		}
		got += string(b)
		size(t, p, r, sent-len(got))
	}
	same(t, "what came", got, text)
}

func TestPipeEndsAreOneWay(t *testing.T) {
	p := made(t)
	r, w := pipe(t, p)
	for _, n := range []int{5, 0, -1, math.MinInt} {
		noGet(t, p, w, n, api.EBADF)
	}
	for _, text := range []string{"x", "", count(300)} {
		noPut(t, p, r, text, api.EBADF)
	}
	noGet(t, p, r, -1, api.EINVAL)
	noGet(t, p, r, math.MinInt, api.EINVAL)
	put(t, p, w, "ab")
	noGet(t, p, r, -1, api.EINVAL)
	size(t, p, r, 2)
	good(t, "Close", p.Close(w))
	noGet(t, p, r, -1, api.EINVAL)
	noPut(t, p, r, "x", api.EBADF)
	gets(t, p, r, 9, "ab")
	noGet(t, p, r, -1, api.EINVAL)
}

func TestPipeBroken(t *testing.T) {
	p := made(t)
	r, w := pipe(t, p)
	put(t, p, w, "ab")
	good(t, "Close", p.Close(r))
	noPut(t, p, w, "x", api.EPIPE)
	noPut(t, p, w, "", api.EPIPE) // also of nothing
	noGet(t, p, w, 1, api.EBADF)
	size(t, p, w, 2)
	good(t, "Close", p.Close(w))
	noPut(t, p, w, "x", api.EBADF)

	r, w = pipe(t, p) // full, and broken
	put(t, p, w, count(256))
	good(t, "Close", p.Close(r))
	noPut(t, p, w, "x", api.EPIPE)
	noPut(t, p, w, "", api.EPIPE)
}

// An end is there as long as one descriptor leads to it.
func TestPipeDupped(t *testing.T) {
	p := made(t)
	r, w := pipe(t, p)
	r2, w2 := dup(t, p, r), dup(t, p, w)
	same(t, "Dup", []int{r2, w2}, []int{2, 3})
	good(t, "Close", p.Close(w))
	noGet(t, p, r, 1, api.EAGAIN)
	put(t, p, w2, "ab")
	gets(t, p, r2, 1, "a")
	good(t, "Close", p.Close(r))
	put(t, p, w2, "c")
	gets(t, p, r2, 9, "bc")
	good(t, "Close", p.Close(w2))
	gets(t, p, r2, 1, "")

	r3, w3 := pipe(t, p)
	same(t, "the lowest ones", []int{r3, w3}, []int{0, 1})
	r4 := dup(t, p, r3)
	good(t, "Close", p.Close(r3))
	put(t, p, w3, "x")
	good(t, "Close", p.Close(r4))
	noPut(t, p, w3, "x", api.EPIPE)
}

// Two pipes do not meet.
func TestPipesApart(t *testing.T) {
	p := made(t)
	r, w := pipe(t, p)
	r2, w2 := pipe(t, p)
	put(t, p, w, "one")
	put(t, p, w2, "two")
	good(t, "Close", p.Close(w))
	gets(t, p, r2, 9, "two")
	noGet(t, p, r2, 9, api.EAGAIN)
	gets(t, p, r, 9, "one")
	gets(t, p, r, 9, "")
	good(t, "Close", p.Close(r2))
	noPut(t, p, w2, "x", api.EPIPE)
}

// EMFILE, if fewer than two are free; the lower one of two is the end to read.
func TestPipeTooMany(t *testing.T) {
	p := full(t)
	noPipe := func(what string) {
		t.Helper()
		refused(t, what, p, api.EMFILE, func() api.Errno {
			r, w, e := p.Pipe()
			same(t, what, []int{r, w}, []int{0, 0})
			return e
		})
	}
	noPipe("none is free")
	good(t, "Close", p.Close(12))
	noPipe("one is free")
	good(t, "Close", p.Close(3))
	r, w, e := p.Pipe()
	same(t, "two are free", []int{r, w, int(e)}, []int{3, 12, 0})
	put(t, p, 12, "x")
	gets(t, p, 3, 9, "x")
	noPipe("none is free again")
}
