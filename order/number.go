package order

import (
	"bytes"
	"cmp"
)

// Number: is the number that b begins with below 0; its digits ahead of the point, and behind it.
func Number(b []byte) (bool, []byte, []byte) {
	below, whole, decimals := numberIn(b)
	return below, bytes.Clone(whole), bytes.Clone(decimals)
}

// numberIn: likewise, in b's own memory.
func numberIn(b []byte) (bool, []byte, []byte) {
	b, minus := bytes.CutPrefix(b[leading(b, isBlank):], []byte{'-'})
	n := leading(b, isDigit)
	whole, decimals := b[:n], b[n:n]
	if rest, point := bytes.CutPrefix(b[n:], []byte{'.'}); point {
		decimals = rest[:leading(rest, isDigit)]
	}
	whole, decimals = bytes.TrimLeft(whole, "0"), bytes.TrimRight(decimals, "0")
	return minus && len(whole)+len(decimals) > 0, whole, decimals
}

// byNumber: parts by the numbers that they begin with.
func byNumber(a, b []byte) int {
	below, whole, decimals := numberIn(a)
	belowB, wholeB, decimalsB := numberIn(b)
	switch {
	case below && !belowB:
		return -1
	case belowB && !below:
		return 1
	}
	n := cmp.Or(cmp.Compare(len(whole), len(wholeB)), bytes.Compare(whole, wholeB), bytes.Compare(decimals, decimalsB))
	if below {
		return -n
	}
	return n
}
