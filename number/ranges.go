package number

import (
	"cmp"
	"slices"
	"strconv"

	"tinsel/api"
)

// What Hi is of a range without an end.
const noEnd = -1

// Ranges: a list of numbers and ranges.
func Ranges(s string) ([]api.Range, api.Errno) {
	if !allItems(s) {
		return nil, api.EINVAL
	}
	var l []api.Range
	for more := true; more; {
		var item string
		item, s, more = cut(s, ',')
		r, fits := rangeOf(ends(item))
		if !fits {
			return nil, api.ERANGE
		}
		l = append(l, r)
	}
	return joined(l), api.OK
}

// allItems: is each part of a text an item? All are looked at ahead of their sizes, as EINVAL comes first.
func allItems(s string) bool {
	for more := true; more; {
		var item string
		item, s, more = cut(s, ',')
		if !isItem(item) {
			return false
		}
	}
	return true
}

// ends: the digits of an item's two ends; nothing behind, if it has no end.
func ends(item string) (string, string) {
	lo, hi, dash := cut(item, '-')
	if !dash {
		return item, item
	}
	if lo == "" {
		lo = "1"
	}
	return lo, hi
}

// isItem: N, N-M, N- or -M, of numbers from 1 on, that do not fall?
func isItem(item string) bool {
	if item == "-" {
		return false
	}
	lo, hi := ends(item)
	if !counts(lo) {
		return false
	}
	return hi == "" || counts(hi) && !smaller(hi, lo)
}

// counts: digits of a number above 0?
func counts(s string) bool { return plain(s, 10) && significant(s) != "" }

// rangeOf: an item's range, by the digits of its ends; false: one is too great.
func rangeOf(lo, hi string) (api.Range, bool) {
	r := api.Range{Hi: noEnd}
	var fits bool
	if r.Lo, fits = value(lo, 10, api.MaxNumber); fits && hi != "" {
		r.Hi, fits = value(hi, 10, api.MaxNumber)
	}
	return r, fits
}

// joined: ranges in their order, those that meet or touch as one; in the memory of the list.
func joined(l []api.Range) []api.Range {
	slices.SortFunc(l, func(a, b api.Range) int { return cmp.Compare(a.Lo, b.Lo) })
	kept := l[:1]
	for _, r := range l[1:] {
		last := &kept[len(kept)-1]
		switch {
		case last.Hi == noEnd:
			return kept
		case r.Lo > last.Hi+1:
			kept = append(kept, r)
		case r.Hi == noEnd || r.Hi > last.Hi:
			last.Hi = r.Hi
		}
	}
	return kept
}

// Has: is a number in ranges?
func Has(l []api.Range, n int) bool {
	for _, r := range l {
		if n >= r.Lo && (n <= r.Hi || r.Hi == noEnd) {
			return true
		}
	}
	return false
}

// Print: ranges as text.
func Print(l []api.Range) string {
	var b []byte
	for i, r := range l {
		if i > 0 {
			b = append(b, ',')
		}
		b = strconv.AppendInt(b, int64(r.Lo), 10)
		if r.Lo == r.Hi {
			continue
		}
		b = append(b, '-')
		if r.Hi != noEnd {
			b = strconv.AppendInt(b, int64(r.Hi), 10)
		}
	}
	return string(b)
}
