package page_test

import (
	"fmt"
	"math"
	"strings"
	"testing"

	"tinsel/page"
)

// moves: is that where Move leads?
func moves(t *testing.T, at complex128, s string, want complex128) {
	t.Helper()
	told(t, fmt.Sprintf("Move(%v, %s)", at, brief(s)), spot(page.Move(at, s)), spot(want))
}

// P17.1: the empty text leads nowhere, from wherever.
func TestMoveByNothing(t *testing.T) {
	for _, at := range append([]complex128{0, 3 + 2i, 3 - 2i, -3 + 2i, -5 - 7i, 8, 7, -8i}, farPlaces...) {
		moves(t, at, "", at)
	}
}

// P17.1: line feeds, byte 13, and bytes one behind the other.
func TestMove(t *testing.T) {
	moves(t, 3+2i, "\n", 3i)
	moves(t, 0, "\n", 1i)
	moves(t, 3+2i, "\n\n\n", 5i)
	moves(t, -3+2i, "\n", 3i)
	moves(t, 3-1i, "\n", 0)
	moves(t, 3-5i, "\n\n", -3i)
	moves(t, 3+2i, "\r", 2i)
	moves(t, -3-2i, "\r", -2i)
	moves(t, 0, "\r", 0)
	moves(t, 3+2i, "ab\rc", 1+2i)
	moves(t, 3+2i, "ab\r\nc", 1+3i)
	moves(t, 3+2i, "ab\n\rc", 1+3i)
	moves(t, 3+2i, "ab", 5+2i)
	moves(t, -3-2i, "ab", -1-2i)
	moves(t, -1, "ab", 1)
	moves(t, 0, "a\tb", 9)
	moves(t, 0, "a\tb\b", 8)
	moves(t, 3+2i, "ab\ncd\nefg", 3+4i)
	moves(t, 0, "abcdefgh\tx\b\b\b\n\t\t\ra\t", 8+1i)
	moves(t, 0, "é", 2) // two bytes
	moves(t, 0, strings.Repeat("a", 1000), 1000)
	moves(t, 0, strings.Repeat("\n", 1000), 1000i)
}

// P17.1: byte 8 goes back, but not below 0; from below 0 it stays.
func TestMoveBack(t *testing.T) {
	moves(t, 0, "\b", 0)
	moves(t, 1, "\b", 0)
	moves(t, 2, "\b", 1)
	moves(t, 9+4i, "\b", 8+4i)
	moves(t, 9-4i, "\b\b\b", 6-4i)
	moves(t, 2+4i, "\b\b\b\b", 4i)
	moves(t, -1, "\b", -1)
	moves(t, -8+3i, "\b\b", -8+3i)
	moves(t, -far, "\b", -far)
	moves(t, far, "\b", far-1)
	moves(t, -1, "a\b", 0)
	moves(t, -2, "a\b", -1)
	moves(t, -1, "ab\b", 0)
	moves(t, 0, "ab\b\b\b\bc", 1)
	moves(t, 0, "\t\b", 7)
	moves(t, 5+1i, "\n\b", 2i)
}

// P17.1: a tab, from each column near 0.
func TestMoveByTab(t *testing.T) {
	for column := -40; column <= 40; column++ {
		want := column + 1
		for want%8 != 0 {
			want++
		}
		for _, row := range []float64{0, 3, -3} {
			moves(t, complex(float64(column), row), "\t", complex(float64(want), row))
		}
	}
	moves(t, 0, "\t\t\t", 24)
	moves(t, 7, "\t", 8)
	moves(t, 8, "\t", 16)
	moves(t, -1, "\t", 0)
	moves(t, -8, "\t", 0)
	moves(t, -9, "\t", -8)
	moves(t, -far, "\t", -far+8)
	moves(t, far-1, "\t", far)
	moves(t, far-9, "\t", far-8)
}

// P17.1: each other byte is one column on.
func TestMoveByEachByte(t *testing.T) {
	for c := range 256 {
		if s := string([]byte{byte(c)}); !strings.Contains("\n\r\b\t", s) {
			moves(t, 3+2i, s, 4+2i)
			moves(t, -3-2i, s, -2-2i)
			moves(t, 0, s+s, 2)
		}
	}
}

// A place that may not be counts as 0, all of it; one that just may be as itself.
func TestMoveFromNoPlace(t *testing.T) {
	for _, at := range noPlaces() {
		moves(t, at, "", 0)
		moves(t, at, "ab", 2)
		moves(t, at, "\n", 1i)
		moves(t, at, "\b", 0)
	}
	moves(t, -far-far*1i, "a", -far+1-far*1i)
	moves(t, -far-far*1i, "\n", (-far+1)*1i)
	moves(t, far-1+far*1i, "a", far+far*1i)
	moves(t, far+far*1i, "\r", far*1i)
	moves(t, far+(far-1)*1i, "\n", far*1i)
	moves(t, complex(math.Copysign(0, -1), math.Copysign(0, -1)), "\n", 1i)
}

// P17.1: what a text does, its two parts do one behind the other.
func TestMoveInParts(t *testing.T) {
	texts := everyText("a\n\r\b\t", 4)
	for _, at := range []complex128{0, 5 + 2i, -9 - 1i} {
		for _, s := range texts {
			for cut := range len(s) + 1 {
				moves(t, page.Move(at, s[:cut]), s[cut:], page.Move(at, s))
			}
		}
	}
}
