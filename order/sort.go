package order

import (
	"bytes"
	"slices"

	"tinsel/api"
)

// Sort: the lines in order.
func Sort(l [][]byte, o api.Order) [][]byte {
	return Merge(o, slices.Collect(slices.Chunk(l, 1))...)
}

// Merge: lists that are sorted as one that is.
func Merge(o api.Order, l ...[][]byte) [][]byte {
	compare := byOrder(o)
	var out [][]byte
	for _, line := range together(l, compare) {
		if o.Flags&api.SortUnique != 0 && len(out) > 0 && compare(out[len(out)-1], line) == 0 {
			continue
		}
		out = append(out, bytes.Clone(line))
	}
	return out
}

// Sorted: the number of the first line that may not stand behind the one ahead of it; -1: there is none.
func Sorted(l [][]byte, o api.Order) int {
	compare, least := byOrder(o), 0
	if o.Flags&api.SortUnique != 0 {
		least = 1
	}
	for i := 1; i < len(l); i++ {
		if compare(l[i], l[i-1]) < least {
			return i
		}
	}
	return -1
}

// together: all lists as one. Merging halves tells always the least of all lists' first ones, sorted or not: what a half
// tells next is the least of its own.
func together[E any](l [][]E, compare comparison[E]) []E {
	switch n := len(l); n {
	case 0:
		return nil
	case 1:
		return l[0]
	default:
		return merged(together(l[:n/2], compare), together(l[n/2:], compare), compare)
	}
}

// merged: two lists as one, in new memory; of equal ones a's stands ahead.
func merged[E any](a, b []E, compare comparison[E]) []E {
	out := make([]E, 0, len(a)+len(b))
	for len(a)+len(b) > 0 {
		if first(a, b, compare) <= 0 {
			out, a = append(out, a[0]), a[1:]
		} else {
			out, b = append(out, b[0]), b[1:]
		}
	}
	return out
}

// first: how the first ones of two lists compare, of which one may be empty: then the other one's stands ahead.
func first[E any](a, b []E, compare comparison[E]) int {
	switch {
	case len(b) == 0:
		return -1
	case len(a) == 0:
		return 1
	}
	return compare(a[0], b[0])
}
