package desc_test

import (
	"fmt"
	"math"
	"strings"
	"testing"

	"tinsel/api"
)

// P7.4 and P7.5: files.

func TestReadFile(t *testing.T) {
	p := made(t)
	file(t, p, "/f", "abcdefghij")
	fd := open(t, p, "/f", rd)
	gets(t, p, fd, 3, "abc")
	place(t, p, fd, 3)
	gets(t, p, fd, 0, "")
	place(t, p, fd, 3)
	gets(t, p, fd, 4, "defg")
	gets(t, p, fd, 9, "hij") // over its end
	place(t, p, fd, 10)
	gets(t, p, fd, 9, "") // at it
	gets(t, p, fd, 0, "")
	place(t, p, fd, 10)
	seeks(t, p, fd, 5, api.SeekEnd, 15)
	gets(t, p, fd, 9, "") // behind it
	gets(t, p, fd, math.MaxInt, "")
	place(t, p, fd, 15)
	seeks(t, p, fd, 9, api.SeekSet, 9)
	gets(t, p, fd, math.MaxInt, "j")
	place(t, p, fd, 10)
	for _, n := range []int{-1, math.MinInt} {
		noGet(t, p, fd, n, api.EINVAL)
	}
	place(t, p, fd, 10)
}

// What others write meanwhile is read.
func TestReadWhatGrows(t *testing.T) {
	p := made(t)
	w, r := open(t, p, "/f", wr|create), open(t, p, "/f", rd)
	gets(t, p, r, 9, "")
	put(t, p, w, "ab")
	gets(t, p, r, 9, "ab")
	put(t, p, w, "c")
	gets(t, p, r, 9, "c")
	good(t, "Ftruncate", p.Ftruncate(w, 1))
	gets(t, p, r, 9, "")
	place(t, p, r, 3)
	put(t, p, w, "d") // at its own place, a hole ahead of it
	gets(t, p, r, 9, "d")
	holds(t, p, "/f", "a\x00\x00d")
}

func TestReadNotAllowed(t *testing.T) {
	p := made(t)
	file(t, p, "/f", "text")
	fd := open(t, p, "/f", wr)
	for _, n := range []int{1, 0, -1, math.MaxInt, math.MinInt} {
		noGet(t, p, fd, n, api.EBADF)
	}
	place(t, p, fd, 0)
	d := open(t, p, "/", rd)
	for _, n := range []int{1, 0, -1, math.MinInt, math.MaxInt} {
		noGet(t, p, d, n, api.EISDIR)
	}
	for _, n := range []int{1, 0, -1} {
		for _, fd := range noFd {
			noGet(t, p, fd, n, api.EBADF)
		}
	}
}

func TestWriteFile(t *testing.T) {
	p := made(t)
	fd := open(t, p, "/f", wr|create)
	p.FS().Clock(5)
	put(t, p, fd, "abcdef")
	place(t, p, fd, 6)
	p.FS().Clock(6)
	put(t, p, fd, "")
	place(t, p, fd, 6)
	st, _ := p.Fstat(fd)
	same(t, "nothing was written", st.Mtime, 5)
	seeks(t, p, fd, 2, api.SeekSet, 2)
	put(t, p, fd, "XY")
	place(t, p, fd, 4)
	holds(t, p, "/f", "abXYef")
	put(t, p, fd, "123") // over its end
	place(t, p, fd, 7)
	holds(t, p, "/f", "abXY123")
	seeks(t, p, fd, 3, api.SeekEnd, 10)
	put(t, p, fd, "z") // behind it
	holds(t, p, "/f", "abXY123\x00\x00\x00z")
	st, _ = p.Fstat(fd)
	same(t, "times", []int64{st.Atime, st.Mtime, st.Ctime}, []int64{0, 6, 6})
}

func TestWriteNotAllowed(t *testing.T) {
	p := made(t)
	file(t, p, "/f", "text")
	fd, d := open(t, p, "/f", rd), open(t, p, "/", rd)
	for _, text := range []string{"x", "", count(300)} {
		noPut(t, p, fd, text, api.EBADF)
		noPut(t, p, d, text, api.EBADF)
		for _, fd := range noFd {
			noPut(t, p, fd, text, api.EBADF)
		}
	}
	holds(t, p, "/f", "text")
	gets(t, p, fd, 9, "text")
}

// With Read and Write both go on from one place.
func TestReadAndWrite(t *testing.T) {
	p := made(t)
	file(t, p, "/f", "abcdef")
	fd := open(t, p, "/f", rw)
	gets(t, p, fd, 2, "ab")
	put(t, p, fd, "CD")
	gets(t, p, fd, 1, "e")
	put(t, p, fd, "FG")
	holds(t, p, "/f", "abCDeFG")
	seeks(t, p, fd, 0, api.SeekSet, 0)
	gets(t, p, fd, 99, "abCDeFG")
}

func TestAppend(t *testing.T) {
	p := made(t)
	file(t, p, "/f", "abc")
	fd := open(t, p, "/f", rw|api.Append)
	place(t, p, fd, 0)
	gets(t, p, fd, 2, "ab") // reading goes from its place
	put(t, p, fd, "de")
	place(t, p, fd, 5)
	holds(t, p, "/f", "abcde")
	seeks(t, p, fd, 1, api.SeekSet, 1)
	gets(t, p, fd, 1, "b")
	put(t, p, fd, "f")
	holds(t, p, "/f", "abcdef")
	place(t, p, fd, 6)
	seeks(t, p, fd, 9, api.SeekEnd, 15)
	put(t, p, fd, "g") // no hole
	holds(t, p, "/f", "abcdefg")
	place(t, p, fd, 7)
	other := open(t, p, "/f", wr)
	seeks(t, p, other, 0, api.SeekEnd, 7)
	put(t, p, other, "hi")
	put(t, p, fd, "j") // behind what others wrote
	holds(t, p, "/f", "abcdefghij")
	good(t, "Ftruncate", p.Ftruncate(fd, 2))
	place(t, p, fd, 10)
	put(t, p, fd, "J")
	holds(t, p, "/f", "abJ")
	place(t, p, fd, 3)
	seeks(t, p, fd, 1, api.SeekSet, 1)
	put(t, p, fd, "") // its place is its size also then
	place(t, p, fd, 3)
	seeks(t, p, fd, 1<<62, api.SeekSet, 1<<62)
	put(t, p, fd, "K")
	place(t, p, fd, 4)
	holds(t, p, "/f", "abJK")
}

// Two that append do not write over one another.
func TestAppendByTwo(t *testing.T) {
	p := made(t)
	a, b := open(t, p, "/log", wr|create|api.Append), open(t, p, "/log", wr|api.Append)
	for i := range 5 {
		put(t, p, a, fmt.Sprint("a", i))
		put(t, p, b, fmt.Sprint("b", i))
	}
	holds(t, p, "/log", "a0b0a1b1a2b2a3b3a4b4")
}

// A write is short where no block is left, and an error where none of it went.
func TestWriteWithoutRoom(t *testing.T) {
	p := proc(t, store(t, 10, 8), root)
	fd := open(t, p, "/f", rw|create)
	more := open(t, p, "/f", wr|api.Append)
	leave(t, p.FS(), 2)
	text := count(300)
	puts(t, p, fd, text, 128)
	place(t, p, fd, 128)
	holds(t, p, "/f", text[:128])
	was := picture(p.FS())
	for range 2 {
		noPut(t, p, fd, "x", api.ENOSPC)
		noPut(t, p, more, "x", api.ENOSPC)
	}
	put(t, p, fd, "")
	same(t, "nothing changed", picture(p.FS()), was)
	place(t, p, fd, 128)
	place(t, p, more, 0) // what is refused moves no place
	seeks(t, p, fd, 100, api.SeekSet, 100)
	puts(t, p, fd, text, 28) // into the block that is there
	place(t, p, fd, 128)
	noPut(t, p, fd, text, api.ENOSPC)
	holds(t, p, "/f", text[:100]+text[:28])
	good(t, "Unlink", p.Unlink("/filler"))
	put(t, p, fd, "more")
	put(t, p, more, "!")
	holds(t, p, "/f", text[:100]+text[:28]+"more!")
}

// No file is longer than MaxFile.
func TestWriteToTheLastByte(t *testing.T) {
	p := made(t)
	fd, more := open(t, p, "/f", rw|create), open(t, p, "/f", wr|api.Append)
	seeks(t, p, fd, api.MaxFile-3, api.SeekSet, api.MaxFile-3)
	puts(t, p, fd, "abcdef", 3)
	place(t, p, fd, api.MaxFile)
	noPut(t, p, fd, "x", api.EFBIG)
	noPut(t, p, more, "x", api.EFBIG)
	put(t, p, fd, "")
	place(t, p, fd, api.MaxFile)
	place(t, p, more, 0)
	size(t, p, fd, api.MaxFile)
	for _, at := range []int{api.MaxFile + 1, 1 << 40, 1<<62 - 1, 1 << 62} {
		seeks(t, p, fd, at, api.SeekSet, at)
		noPut(t, p, fd, "x", api.EFBIG)
		noPut(t, p, fd, count(300), api.EFBIG)
		put(t, p, fd, "")
		gets(t, p, fd, math.MaxInt, "")
		place(t, p, fd, at)
	}
	seeks(t, p, fd, -5, api.SeekEnd, api.MaxFile-5)
	gets(t, p, fd, 9, "\x00\x00abc")
}

// P7.9: what is written and read again at the same place is the same, of all sizes, over all borders of blocks.
func TestWrittenIsRead(t *testing.T) {
	p := made(t)
	want := []byte{}
	fd := open(t, p, "/f", rw|create)
	for _, at := range []int{0, 63, 64, 65, 100, 383, 384, 385, 1407, 1408, 1409, 5000, 17000} {
		for _, n := range []int{1, 2, 63, 64, 65, 200, 700} {
			text := count(n)
			if more := at + n - len(want); more > 0 {
				want = append(want, make([]byte, more)...)
			}
			copy(want[at:], text)
			seeks(t, p, fd, at, api.SeekSet, at)
			put(t, p, fd, text)
			place(t, p, fd, at+n)
			seeks(t, p, fd, -n, api.SeekCur, at)
			gets(t, p, fd, n, text)
		}
		size(t, p, fd, len(want))
	}
	seeks(t, p, fd, 0, api.SeekSet, 0)
	var got strings.Builder
	for n := 1; ; n = n*2 + 1 {
		b, e := p.Read(fd, n)
		good(t, "Read", e)
		if len(b) == 0 {
			break
		}
		got.Write(b)
	}
	same(t, "all of it", got.String(), string(want))
}
