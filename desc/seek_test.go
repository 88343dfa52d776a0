package desc_test

import (
	"math"
	"testing"

	"tinsel/api"
)

// P7.6: Seek.

func TestSeek(t *testing.T) {
	p := made(t)
	file(t, p, "/f", "abcdefghij")
	fd := open(t, p, "/f", rw)
	seeks(t, p, fd, 0, api.SeekEnd, 10)
	seeks(t, p, fd, -3, api.SeekCur, 7)
	gets(t, p, fd, 1, "h")
	seeks(t, p, fd, 1, api.SeekCur, 9)
	seeks(t, p, fd, 2, api.SeekSet, 2)
	gets(t, p, fd, 1, "c")
	seeks(t, p, fd, -10, api.SeekEnd, 0)
	seeks(t, p, fd, 5, api.SeekEnd, 15)
	seeks(t, p, fd, 0, api.SeekCur, 15)
	seeks(t, p, fd, -15, api.SeekCur, 0)
	seeks(t, p, fd, 4, api.SeekCur, 4)
	seeks(t, p, fd, 4, api.SeekCur, 8)
	seeks(t, p, fd, 0, api.SeekSet, 0)
	holds(t, p, "/f", "abcdefghij") // places change no bytes
	good(t, "Ftruncate", p.Ftruncate(fd, 3))
	seeks(t, p, fd, 0, api.SeekEnd, 3)
}

// It may be sought whatever it was opened for.
func TestSeekOfEachFlag(t *testing.T) {
	p := made(t)
	file(t, p, "/f", "abc")
	for _, flags := range []int{rd, wr, rw, wr | api.Append} {
		fd := open(t, p, "/f", flags)
		seeks(t, p, fd, 2, api.SeekSet, 2)
		seeks(t, p, fd, -1, api.SeekCur, 1)
		seeks(t, p, fd, 1, api.SeekEnd, 4)
	}
	d := open(t, p, "/", rd)
	st, e := p.Fstat(d)
	good(t, "Fstat", e)
	seeks(t, p, d, 3, api.SeekSet, 3)
	seeks(t, p, d, 3, api.SeekCur, 6)
	seeks(t, p, d, 0, api.SeekEnd, st.Size)
	noSeek(t, p, d, -1, api.SeekSet, api.EINVAL)
}

func TestSeekRefuses(t *testing.T) {
	p := made(t)
	file(t, p, "/f", "abcdefghij")
	fd := open(t, p, "/f", rd)
	seeks(t, p, fd, 4, api.SeekSet, 4)
	const top = 1 << 62
	for _, v := range [][2]int{
		{-1, api.SeekSet}, {math.MinInt, api.SeekSet}, {top + 1, api.SeekSet}, {math.MaxInt, api.SeekSet},
		{-5, api.SeekCur}, {math.MinInt, api.SeekCur}, {top - 3, api.SeekCur}, {top, api.SeekCur}, {math.MaxInt, api.SeekCur}, {math.MaxInt - 3, api.SeekCur},
		{-11, api.SeekEnd}, {math.MinInt, api.SeekEnd}, {top - 9, api.SeekEnd}, {math.MaxInt, api.SeekEnd}, {math.MaxInt - 9, api.SeekEnd},
		{0, 3}, {0, -1}, {0, math.MaxInt}, {0, math.MinInt}, {-1, 3}, {5, 4},
	} {
		noSeek(t, p, fd, v[0], v[1], api.EINVAL)
		place(t, p, fd, 4)
	}
	seeks(t, p, fd, top-4, api.SeekCur, top)
	for _, off := range []int{1, 2, top, math.MaxInt, math.MaxInt - top, math.MinInt, -top - 1} {
		noSeek(t, p, fd, off, api.SeekCur, api.EINVAL)
		place(t, p, fd, top)
	}
	gets(t, p, fd, math.MaxInt, "")
	seeks(t, p, fd, -1, api.SeekCur, top-1)
	seeks(t, p, fd, 1, api.SeekCur, top)
	seeks(t, p, fd, -top, api.SeekCur, 0)
	seeks(t, p, fd, top-10, api.SeekEnd, top)
	seeks(t, p, fd, top, api.SeekSet, top)
	seeks(t, p, fd, -10, api.SeekEnd, 0)
}

// ESPIPE of what has no place, ahead of what else is wrong; EBADF ahead of that.
func TestSeekOfStreams(t *testing.T) {
	p := made(t)
	pipe(t, p)
	tape(t, p, "abc")
	for fd := range 3 {
		for _, v := range [][2]int{{0, api.SeekSet}, {0, api.SeekCur}, {0, api.SeekEnd}, {-1, api.SeekSet}, {0, 3}, {math.MinInt, -1}} {
			noSeek(t, p, fd, v[0], v[1], api.ESPIPE)
		}
	}
	gets(t, p, 2, 9, "abc")
	for _, fd := range noFd {
		for _, v := range [][2]int{{0, api.SeekSet}, {-1, api.SeekSet}, {0, 3}} {
			noSeek(t, p, fd, v[0], v[1], api.EBADF)
		}
	}
	good(t, "Close", p.Close(0))
	noSeek(t, p, 0, 0, api.SeekSet, api.EBADF)
}
