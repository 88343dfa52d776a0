package text_test

import (
	"fmt"
	"math"
	"strings"
	"testing"

	"tinsel/api"
	"tinsel/text"
)

// P15.8: the first byte in which two differ, and its line; whichever stands first.
func TestCmp(t *testing.T) {
	for _, x := range []struct {
		a, b    string
		n, line int
	}{
		{"", "", 0, 0}, {"a", "a", 0, 0}, {"\n", "\n", 0, 0}, {"a\nb\n", "a\nb\n", 0, 0}, {"\x00\xff", "\x00\xff", 0, 0},
		{"", "a", 1, 1}, {"", "\n", 1, 1}, {"a", "b", 1, 1}, {"a", "bcd", 1, 1}, {"a\n", "b\n", 1, 1}, {"\n", "a", 1, 1}, {"\x00", "\xff", 1, 1}, {"\x00", "", 1, 1}, {"a", "A", 1, 1},
		{"ab", "abc", 3, 1}, {"ab", "ac", 2, 1}, {"ab\n", "ab", 3, 1}, {"a", "a\n", 2, 1}, {"a\n", "a\nb", 3, 2}, {"a\n", "a\n\n", 3, 2}, {"a\nb", "a\nbc", 4, 2}, {"a\nb", "a\nc", 3, 2}, {"a\nb\nc\n", "a\nb\nd\n", 5, 3}, {"\n\n\n", "\n\n\n\n", 4, 4}, {"\n\n\n", "\n\na", 3, 3}, {"a\nb\n", "a\n\nb", 3, 2}, {"ab\ncd", "ab\rcd", 3, 1}, {"a\x00b", "a\x00c", 3, 1},
	} {
		for _, pair := range [][2]string{{x.a, x.b}, {x.b, x.a}} {
			if n, line := text.Cmp([]byte(pair[0]), []byte(pair[1])); n != x.n || line != x.line {
				t.Errorf("Cmp(%q, %q): %d, %d, want %d, %d", pair[0], pair[1], n, line, x.n, x.line)
			}
		}
	}
	if n, line := text.Cmp(nil, []byte{}); n != 0 || line != 0 {
		t.Errorf("Cmp(nil, none): %d, %d", n, line)
	}
}

// dumps: what Od tells of a text.
func dumps(t *testing.T, s string, base int, want string) {
	t.Helper()
	told(t, fmt.Sprintf("Od(%q, %d)", s, base), answer(text.Od([]byte(s), base)), want)
}

// P15.8: the bases, written out.
func TestOd(t *testing.T) {
	dumps(t, "AB", 8, "0000000 101 102\n0000002\n")
	dumps(t, "AB", 10, "0000000  65  66\n0000002\n")
	dumps(t, "AB", 16, "0000000 41 42\n0000002\n")
	dumps(t, "\x00\x07\x08\x09\x0a\x0f\x10\x3f\x40\x63\x64\x7f\x80\xff", 8, "0000000 000 007 010 011 012 017 020 077 100 143 144 177 200 377\n0000016\n")
	dumps(t, "\x00\x07\x08\x09\x0a\x0f\x10\x3f\x40\x63\x64\x7f\x80\xff", 10, "0000000   0   7   8   9  10  15  16  63  64  99 100 127 128 255\n0000016\n")
	dumps(t, "\x00\x07\x08\x09\x0a\x0f\x10\x3f\x40\x63\x64\x7f\x80\xff", 16, "0000000 00 07 08 09 0a 0f 10 3f 40 63 64 7f 80 ff\n0000016\n")
	for base, unit := range map[int]string{8: " 141", 10: "  97", 16: " 61"} {
		dumps(t, "", base, "0000000\n")
		dumps(t, "a", base, "0000000"+unit+"\n0000001\n")
		dumps(t, strings.Repeat("a", 15), base, "0000000"+strings.Repeat(unit, 15)+"\n0000017\n")
		full := strings.Repeat(unit, 16) + "\n"
		dumps(t, strings.Repeat("a", 16), base, "0000000"+full+"0000020\n")
		dumps(t, strings.Repeat("a", 17), base, "0000000"+full+"0000020"+unit+"\n0000021\n")
		dumps(t, strings.Repeat("a", 32), base, "0000000"+full+"0000020"+full+"0000040\n")
		dumps(t, strings.Repeat("a", 33), base, "0000000"+full+"0000020"+full+"0000040"+unit+"\n0000041\n")
	}
}

// P15.8: each byte in each base.
func TestOdOfEachByte(t *testing.T) {
	for c := range 256 {
		s := string([]byte{byte(c)})
		dumps(t, s, 8, fmt.Sprintf("0000000 %03o\n0000001\n", c))
		dumps(t, s, 10, fmt.Sprintf("0000000 %3d\n0000001\n", c))
		dumps(t, s, 16, fmt.Sprintf("0000000 %02x\n0000001\n", c))
	}
}

// P15.8: EINVAL of other bases.
func TestOdOfOtherBases(t *testing.T) {
	for base := -20; base < 70; base++ {
		if base != 8 && base != 10 && base != 16 {
			dumps(t, "", base, refused(api.EINVAL))
			dumps(t, "AB", base, refused(api.EINVAL))
		}
	}
	for _, base := range farInts {
		dumps(t, "AB", base, refused(api.EINVAL))
	}
	dumps(t, "AB", math.MaxUint32+1+8, refused(api.EINVAL))
}

// P15.8: places take seven octal digits, or more.
func TestOdPlaces(t *testing.T) {
	const n = 0o10000021
	b, e := text.Od(make([]byte, n), 16)
	l := strings.Split(string(b), "\n")
	if e != api.OK || len(l) != n/16+3 {
		t.Fatal(len(l), e)
	}
	row := strings.Repeat(" 00", 16)
	for i, s := range l[:n/16] {
		if want := fmt.Sprintf("%07o", 16*i) + row; s != want {
			t.Fatalf("line %d: %q, want %q", i, s, want)
		}
	}
	told(t, "the last of seven", l[0o377777], "7777760"+row)
	same(t, "those behind", l[0o400000:], []string{"10000000" + row, "10000020 00", "10000021", ""})
}
