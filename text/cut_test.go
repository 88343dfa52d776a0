package text_test

import (
	"fmt"
	"math"
	"testing"

	"tinsel/api"
	"tinsel/number"
	"tinsel/text"
)

// P15.3: of each line the bytes whose number is in the ranges; each line is ended.
func TestCutBytes(t *testing.T) {
	for _, x := range []struct {
		b    string
		l    []api.Range
		want string
	}{
		{"", between(1, 1), ""},
		{"\n", between(1, 1), "\n"},
		{"\n\n", between(1, -1), "\n\n"},
		{"abc", between(1, 1), "a\n"},
		{"abc\n", between(2, 2), "b\n"},
		{"abc\n", between(3, 3), "c\n"},
		{"abc\n", between(4, 4), "\n"},
		{"abc\n", between(2, 3), "bc\n"},
		{"abc\n", between(2, 9), "bc\n"},
		{"abc\n", between(2, -1), "bc\n"},
		{"abc\n", between(4, -1), "\n"},
		{"abc\n", between(100, 200), "\n"},
		{"abc\n", between(1, 1, 3, -1), "ac\n"},
		{"abc\n", nil, "\n"},
		{"abc", nil, "\n"},
		{"abc\nde\n\nf", between(2, 2), "b\ne\n\n\n"},
		{"abc\nde\n\nf", between(1, 1), "a\nd\n\nf\n"},
		{"a\nabcdef\nab\n", between(2, 2, 4, 5), "\nbde\nb\n"},
		{"abcdef\n", between(5, 5, 1, 2), "abe\n"},
		{"abcdef\n", between(1, 3, 2, 4), "abcd\n"},
		{"abcdef\n", between(2, 2, 2, 2), "b\n"},
		{"abc\n", between(3, 1), "\n"},
		{"abc\n", between(0, 0), "\n"},
		{"abc\n", between(-5, 1), "a\n"},
		{"abc\n", between(-5, -1), "abc\n"},
		{"abc\n", between(0, -1), "abc\n"},
		{"abc\n", between(-1, -1), "abc\n"},
		{"abc\n", between(-5, -2), "\n"},
		{"abc\n", between(2, math.MaxInt), "bc\n"},
		{"abc\n", between(math.MinInt, 2), "ab\n"},
		{"abc\n", between(math.MaxInt, math.MaxInt, math.MaxInt, -1, math.MinInt, math.MinInt), "\n"},
		{"abc\n", between(math.MinInt, -1), "abc\n"},
		{"\x00\xff\xc3\xa9\t\n", between(2, 3), "\xff\xc3\n"},
	} {
		is(t, fmt.Sprintf("CutBytes(%q, %v)", x.b, x.l), text.CutBytes([]byte(x.b), x.l), x.want)
	}
}

// P15.3: the fields, parted by a delim.
func TestCutFields(t *testing.T) {
	for _, x := range []struct {
		b    string
		l    []api.Range
		want string
	}{
		{"", between(1, 1), ""},
		{"a:b:c\nx\n", between(2, 2), "b\nx\n"},
		{"a:b:c\n", between(1, 1), "a\n"},
		{"a:b:c\n", between(3, 3), "c\n"},
		{"a:b:c\n", between(4, 4), "\n"},
		{"a:b:c\n", between(1, 2), "a:b\n"},
		{"a:b:c\n", between(1, 1, 3, 3), "a:c\n"},
		{"a:b:c\n", between(3, 3, 1, 1), "a:c\n"},
		{"a:b:c\n", between(2, -1), "b:c\n"},
		{"a:b:c\n", between(2, 9), "b:c\n"},
		{"a:b:c\n", between(1, -1), "a:b:c\n"},
		{"a:b:c\n", between(4, -1), "\n"},
		{"a:b:c\n", nil, "\n"},
		{"a:b:c\n", between(1, 2, 2, 3), "a:b:c\n"},
		{"a:b:c", between(3, 3), "c\n"},
		{"a:b:c", between(1, -1), "a:b:c\n"},
		{":a:\n", between(1, 1), "\n"},
		{":a:\n", between(2, 2), "a\n"},
		{":a:\n", between(3, 3), "\n"},
		{":a:\n", between(1, 2), ":a\n"},
		{":a:\n", between(2, 3), "a:\n"},
		{":a:\n", between(1, 1, 3, 3), ":\n"},
		{":a:\n", between(4, 4), "\n"},
		{":a:\n", between(1, -1), ":a:\n"},
		{"a::b\n", between(2, 2), "\n"},
		{"a::b\n", between(1, 2), "a:\n"},
		{"a::b\n", between(2, 3), ":b\n"},
		{"a::b\n", between(1, 1, 3, 3), "a:b\n"},
		{":\n", between(1, 1), "\n"},
		{":\n", between(1, 2), ":\n"},
		{":\n", between(3, 3), "\n"},
		{":::\n", between(2, 3), ":\n"},
		{":::\n", between(1, -1), ":::\n"},
		{"a:b\nc:d:e\nf:g\n", between(2, 2), "b\nd\ng\n"},
		{"a:b\nc:d:e\nf:g\n", between(3, 3), "\ne\n\n"},
		{"a:b\n", between(-3, -1), "a:b\n"},
		{"a:b\n", between(2, 1), "\n"},
		{"a:b\n", between(math.MinInt, 1, math.MaxInt, -1), "a\n"},
		{"\x00:\xff\n", between(2, 2), "\xff\n"},
	} {
		is(t, fmt.Sprintf("CutFields(%q, %v, ':', false)", x.b, x.l), text.CutFields([]byte(x.b), x.l, ':', false), x.want)
		with := x.want
		if x.b == "a:b:c\nx\n" {
			with = "b\n"
		}
		is(t, fmt.Sprintf("CutFields(%q, %v, ':', true)", x.b, x.l), text.CutFields([]byte(x.b), x.l, ':', true), with)
	}
}

// P15.3: a line without delim as it is, or, only, not at all.
func TestLinesWithoutDelim(t *testing.T) {
	for _, l := range [][]api.Range{nil, between(1, 1), between(2, 2), between(1, -1), between(9, 9)} {
		for _, x := range []struct{ b, as, only string }{
			{"", "", ""}, {"\n", "\n", ""}, {"a", "a\n", ""}, {"a\n", "a\n", ""}, {"a b\nc\td\n\n\x00", "a b\nc\td\n\n\x00\n", ""},
		} {
			is(t, fmt.Sprintf("CutFields(%q, %v, ':', false)", x.b, l), text.CutFields([]byte(x.b), l, ':', false), x.as)
			is(t, fmt.Sprintf("CutFields(%q, %v, ':', true)", x.b, l), text.CutFields([]byte(x.b), l, ':', true), x.only)
		}
	}
	b := []byte("none\na:b\n\nnone\nc:d\nnone")
	is(t, "some with a delim", text.CutFields(b, between(2, 2), ':', false), "none\nb\n\nnone\nd\nnone\n")
	is(t, "only those", text.CutFields(b, between(2, 2), ':', true), "b\nd\n")
}

// P15.3: any byte may be the delim; a line feed never parts a line, whatever only says.
func TestDelims(t *testing.T) {
	for c := range 256 {
		d := string([]byte{byte(c)})
		if c == '\n' || c == 'x' || c == 'y' || c == 'z' {
			continue
		}
		b := []byte("x" + d + "y" + d + "z\nx")
		is(t, "delim "+fmt.Sprint(c), text.CutFields(b, between(2, 3), byte(c), false), "y"+d+"z\nx\n")
		is(t, "only, delim "+fmt.Sprint(c), text.CutFields(b, between(1, 1, 3, 3), byte(c), true), "x"+d+"z\n")
	}
	for _, only := range []bool{false, true} {
		for _, l := range [][]api.Range{nil, between(1, 1), between(2, 2), between(2, -1)} {
			for b, want := range map[string]string{"": "", "\n": "\n", "a": "a\n", "a\nb\n": "a\nb\n", "a:b\n\nc": "a:b\n\nc\n"} {
				is(t, fmt.Sprintf("CutFields(%q, %v, line feed, %v)", b, l, only), text.CutFields([]byte(b), l, '\n', only), want)
			}
		}
	}
}

// P15.3: what is in the ranges is what chapter 11's Has says, of any ranges.
func TestChosenNumbers(t *testing.T) {
	ends := append([]int{-2, -1, 0, 1, 2, 3, 4, 5, 6}, farInts...)
	b, fields := []byte("abcde\n"), []byte("a,b,c,d,e\n")
	for _, lo := range ends {
		for _, hi := range ends {
			l := between(lo, hi, 4, 4)
			bytes, parted := "", ""
			for i, c := range "abcde" {
				if number.Has(l, i+1) {
					bytes += string(c)
					parted += "," + string(c)
				}
			}
			is(t, fmt.Sprintf("bytes of %v", l), text.CutBytes(b, l), bytes+"\n")
			is(t, fmt.Sprintf("fields of %v", l), text.CutFields(fields, l, ',', true), parted[1:]+"\n")
		}
	}
}
