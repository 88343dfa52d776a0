package order_test

import (
	"fmt"
	"regexp"
	"strconv"
	"strings"
	"testing"

	"tinsel/api"
	"tinsel/order"
)

// parsed: what ParseKey answers, as a text.
func parsed(s string) string {
	k, e := order.ParseKey(s)
	return fmt.Sprint(k.Field, k.Char, k.EndField, k.EndChar, k.Flags, int(e))
}

// noKey: what parsed tells of a text that is none.
const noKey = "0 0 0 0 0 22"

// P16.1: keys of all forms.
func TestParseKey(t *testing.T) {
	for s, want := range map[string]string{
		"1": "1 1 0 0 0 0", "2": "2 1 0 0 0 0", "10": "10 1 0 0 0 0", "2.3": "2 3 0 0 0 0", "2.3,4": "2 3 4 0 0 0", "2,4": "2 1 4 0 0 0", "2,4.5": "2 1 4 5 0 0", "2.3,4.5": "2 3 4 5 0 0",
		"2.3nr,4": "2 3 4 0 3 0", "4,2": "4 1 2 0 0 0", "1,1": "1 1 1 0 0 0", "1.10,2.20": "1 10 2 20 0 0",
		"1,2.0": "1 1 2 0 0 0", "1.1,1.0": "1 1 1 0 0 0", "1,2.00": "1 1 2 0 0 0", "1,2.000000000": "1 1 2 0 0 0", "1,2.0b": "1 1 2 0 8 0",
		"01": "1 1 0 0 0 0", "1.01": "1 1 0 0 0 0", "002.003,004.005": "2 3 4 5 0 0", "000000001": "1 1 0 0 0 0", "1.000000010": "1 10 0 0 0 0",
		"999999999": "999999999 1 0 0 0 0", "123456789.987654321,999999999.100000000": "123456789 987654321 999999999 100000000 0 0",
		"1n": "1 1 0 0 1 0", "1r": "1 1 0 0 2 0", "1f": "1 1 0 0 4 0", "1b": "1 1 0 0 8 0", "1d": "1 1 0 0 16 0", "1nrfbd": "1 1 0 0 31 0", "1dbfrn": "1 1 0 0 31 0",
		"1nn": "1 1 0 0 1 0", "1rr": "1 1 0 0 2 0", "1nrnrn": "1 1 0 0 3 0", "1bbbb": "1 1 0 0 8 0", "1n,2n": "1 1 2 0 1 0",
		"1,2n": "1 1 2 0 1 0", "1,2r": "1 1 2 0 2 0", "1,2f": "1 1 2 0 4 0", "1,2b": "1 1 2 0 8 0", "1,2d": "1 1 2 0 16 0", "1n,2r": "1 1 2 0 3 0", "1.2b,3.4d": "1 2 3 4 24 0", "1nf,2bd": "1 1 2 0 29 0", "1rf,2.3rb": "1 1 2 3 14 0",
	} {
		told(t, fmt.Sprintf("ParseKey(%q)", s), parsed(s), want)
	}
}

// P16.1: EINVAL of what is no key; then nothing stands beside it.
func TestNoKeys(t *testing.T) {
	for _, s := range []string{
		"", " ", ".", ",", "n", "b", ".1", ",1", "n1", "1.", "1,", "1.n", "1n.", "1n.2", "1.2,", "1.,2", "1,2.", "1,2.n", "1,.3", "1,n", "1,,2", "1,2,", "1,2,3", "1,2n,3", "1..2", "1.2.3", "1,2.3.4", "1,2..3",
		"0", "00", "000000000", "0.1", "0n", "0,1", "1.0", "1.00", "1.0n", "1.0,2", "1,0", "1,00", "1,0.1", "1,0n", "0,0", "1.1,0.0",
		"0000000001", "1234567890", "1.0000000001", "1.1234567890", "1,1234567890", "1,2.1234567890", "1,2.0000000000", "99999999999999999999999", "18446744073709551617", "1.18446744073709551617", "1,4294967297.18446744073709551617",
		"1 ", " 1", "1 n", "1n ", "1, 2", "1 ,2", "1. 2", "1,2 ", "1\n", "1\x00", "\x001", "1\t", "1,2\n", "+1", "-1", "1.+1", "1.-1", "1,-2", "1,+2", "0x1", "1e1", "1_0",
		"1N", "1R", "1F", "1B", "1D", "1x", "1i", "1nx", "1n2", "1n2r", "1,2n3", "1,2x", "1a", "1nrfbdg", "1\xee", "1n\xff", "1é", "1\u0660", "\u0661", "1-2", "1:2", "1;2", "1,2;3", "a", "é",
	} {
		told(t, fmt.Sprintf("ParseKey(%q)", s), parsed(s), noKey)
	}
}

// P16.1: each byte behind a key, between its parts and ahead of it.
func TestEachByteOfAKey(t *testing.T) {
	flags := map[string]int{"n": 1, "r": 2, "f": 4, "b": 8, "d": 16}
	for c := range 256 {
		s := string([]byte{byte(c)})
		for _, x := range []struct{ text, plain, letter string }{
			{"3.4" + s, noKey, "3 4 0 0 %d 0"}, {"3.4,5.6" + s, noKey, "3 4 5 6 %d 0"}, {"3" + s + ",5", noKey, "3 1 5 0 %d 0"}, {s + "3", noKey, noKey}, {"3,4r" + s, noKey, ""}, {"3," + s + "4", noKey, noKey},
		} {
			want := x.plain
			if f, ok := flags[s]; ok && x.letter != "" {
				want = strings.ReplaceAll(x.letter, "%d", strconv.Itoa(f))
			} else if ok {
				want = fmt.Sprintf("3 1 4 0 %d 0", f|2)
			}
			if s < "0" || s > "9" {
				told(t, fmt.Sprintf("ParseKey(%q)", x.text), parsed(x.text), want)
			}
		}
	}
}

// The model of a key's text: the chapter's form as a pattern.
var keyForm = regexp.MustCompile(`^([0-9]{1,9})(?:\.([0-9]{1,9}))?([nrfbd]*)(?:,([0-9]{1,9})(?:\.([0-9]{1,9}))?([nrfbd]*))?$`)

// modelKey: what parsed must tell.
func modelKey(s string) string {
	m := keyForm.FindStringSubmatch(s)
	if m == nil || strings.HasSuffix(s, "\n") {
		return noKey
	}
	number := func(s string, none int) int {
		if s == "" {
			return none
		}
		n, _ := strconv.Atoi(s)
		return n
	}
	flags := 0
	for i, letter := range []string{"n", "r", "f", "b", "d"} {
		if strings.Contains(m[3]+m[6], letter) {
			flags += 1 << i
		}
	}
	field, char := number(m[1], 0), number(m[2], 1)
	if field == 0 || char == 0 || m[4] != "" && number(m[4], 0) == 0 {
		return noKey
	}
	return fmt.Sprint(field, char, number(m[4], 0), number(m[5], 0), flags, 0)
}

// P16.1: all short texts of the signs of keys.
func TestEveryShortKey(t *testing.T) {
	good := 0
	for _, s := range append(everyText("01.,nr", 7), everyText("029.,bdfx", 5)...) {
		want := modelKey(s)
		told(t, fmt.Sprintf("ParseKey(%q)", s), parsed(s), want)
		if want != noKey {
			good++
		}
	}
	if good < 1000 {
		t.Errorf("only %d keys", good)
	}
}

// R1: a great text is read in a short time, and digits do not wrap.
func TestGreatKeys(t *testing.T) {
	const n = 1 << 20
	told(t, "letters", parsed("1"+strings.Repeat("nr", n)+",2"+strings.Repeat("b", n)), "1 1 2 0 11 0")
	for _, s := range []string{strings.Repeat("1", n), "1." + strings.Repeat("0", n), "1," + strings.Repeat("0", n) + "1", strings.Repeat(",", n), strings.Repeat("1,", n), strings.Repeat("n", n)} {
		told(t, "a great text", parsed(s), noKey)
	}
	for n := 1; n < 40; n++ {
		want := noKey
		if n <= 9 {
			want = fmt.Sprint("1 1 ", strings.Repeat("3", n), " ", strings.Repeat("7", n), " 0 0")
		}
		told(t, fmt.Sprint(n, " digits"), parsed("1,"+strings.Repeat("3", n)+"."+strings.Repeat("7", n)), want)
	}
}

// The flags' numbers, as the letters are told by them.
func TestFlagNumbers(t *testing.T) {
	same(t, "flags", []int{api.KeyNumeric, api.KeyReverse, api.KeyFold, api.KeyBlanks, api.KeyDict, api.SortUnique, api.SortStable}, []int{1, 2, 4, 8, 16, 32, 64})
}
