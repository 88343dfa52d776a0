package number_test

import (
	"strconv"
	"strings"
	"testing"

	"tinsel/api"
)

// noughts: so many that no number has as many digits.
var noughts = strings.Repeat("0", 500)

// nines: digits of a number that is far too great.
var nines = strings.Repeat("9", 500)

// P11.1: a - or none, digits.
func TestInt(t *testing.T) {
	for _, n := range []int{0, 1, 7, 9, 10, 99, 1023, 1 << 31, 1 << 53, 1<<53 + 1, top - 1, top} {
		s := strconv.Itoa(n)
		for _, ahead := range []string{"", "0", "00", noughts} {
			reads(t, readInt, ahead+s, n)
			reads(t, readInt, "-"+ahead+s, -n)
		}
	}
	reads(t, readInt, "-007", -7)
	reads(t, readInt, "-0", 0)
	reads(t, readInt, "08", 8)
	reads(t, readInt, noughts, 0)
	reads(t, readInt, "-"+noughts, 0)
	for d := range 10 {
		reads(t, readInt, strconv.Itoa(d), d)
		reads(t, readInt, "1"+strconv.Itoa(d), 10+d)
	}
}

// P11.1: what is no such text.
func TestIntOfNone(t *testing.T) {
	fails(t, readInt, api.EINVAL, "", "-", "+", "+1", "--1", "-+1", "+-1", "- 1", " 1", "1 ", "\t1", "1\n", "1-", "1-2", "-1-", "1.", ".1", "1.0", "1e3", "1,000", "1_000", "0x1", "0b1", "0o7", "1k", "a", "1a", "a1", "-a", "١", "１", "1\x00", "\x00", "\xff", "1\xff", "\xb1", "-\xb1")
}

// P11.1: ERANGE, if its size is above MaxNumber.
func TestIntTooGreat(t *testing.T) {
	for _, s := range []string{"1000000000000000000", "1000000000000000001", "9223372036854775807", "9223372036854775808", "9223372036854775809", "18446744073709551615", "18446744073709551616", "18446744073709551617", "184467440737095516160", nines, "1" + noughts, noughts + "1" + noughts} {
		fails(t, readInt, api.ERANGE, s, "-"+s, "0"+s, "-"+noughts+s)
	}
}

// P11.1, R2: a text that is none is told ahead of one that is too great.
func TestIntNoneFirst(t *testing.T) {
	for _, s := range []string{"1000000000000000000", nines} {
		fails(t, readInt, api.EINVAL, s+"x", s+" ", s+"-", "-"+s+"\xff", "+"+s, "--"+s, s+"k")
		fails(t, readSize, api.EINVAL, s+"x", s+" ", s+"kk", s+"k ", "-"+s, "+"+s, s+"k0")
		fails(t, readOctal, api.EINVAL, s+"x", strings.Repeat("7", 500)+"8", strings.Repeat("7", 500)+"-", "-"+strings.Repeat("7", 500), "7777777777777777777777 ")
		noRanges(t, api.EINVAL, s+"x", s+",x", s+",", s+",0", s+",2-1", s+"-1", s+"-,-")
		noOwner(t, api.EINVAL, s+"x", s+":x", "x:"+s, s+":1:", ":"+s+"-", "-"+s)
	}
}

// The units, and what each counts.
var units = map[string]int{"": 1, "c": 1, "w": 2, "b": 512, "k": 1024, "K": 1024, "M": 1024 * 1024, "G": 1024 * 1024 * 1024}

// P11.1: digits and a unit, or none: their product.
func TestSize(t *testing.T) {
	for unit, each := range units {
		for _, n := range []int{0, 1, 2, 9, 10, 511, 1023, 1024, 1000000} {
			for _, ahead := range []string{"", "0", "000", noughts} {
				reads(t, readSize, ahead+strconv.Itoa(n)+unit, n*each)
			}
		}
		reads(t, readSize, noughts+unit, 0)
	}
	reads(t, readSize, "2k", 2048)
}

// P11.1: products at MaxNumber, and above it.
func TestSizeAtItsEnd(t *testing.T) {
	for unit, each := range units {
		most := top / each
		reads(t, readSize, strconv.Itoa(most)+unit, most*each)
		reads(t, readSize, strconv.Itoa(most-1)+unit, (most-1)*each)
		reads(t, readSize, noughts+strconv.Itoa(most)+unit, most*each)
		for _, more := range []string{strconv.Itoa(most + 1), strconv.Itoa(most*10 + 9), strconv.Itoa(top), "1000000000000000000", "9223372036854775808", "18446744073709551616", "18014398509481984", "36028797018963968", nines} {
			if n, err := strconv.Atoi(more); err == nil && n <= most {
				continue
			}
			fails(t, readSize, api.ERANGE, more+unit, "0"+more+unit)
		}
	}
	reads(t, readSize, "999999999999999999", top)
	reads(t, readSize, "999999999999999999c", top)
	reads(t, readSize, "499999999999999999w", top-1)
	fails(t, readSize, api.ERANGE, "500000000000000000w", "1953125000000000b", "976562500000000k", "976562500000000K", "953674316407M", "931322575G")
	reads(t, readSize, "1953124999999999b", 999999999999999488)
	reads(t, readSize, "976562499999999k", 999999999999998976)
	reads(t, readSize, "953674316406M", 999999999999737856)
	reads(t, readSize, "931322574G", 999999999339134976)
}

// P11.1: what is no size.
func TestSizeOfNone(t *testing.T) {
	fails(t, readSize, api.EINVAL, "", "c", "w", "b", "k", "K", "M", "G", "kk", "-", "-1", "-0", "+1", "-1k", " 1", "1 ", "1 k", "k1", "1k1", "1kk", "1kb", "1cw", "1KM", "1MB", "1GG", "0kk", "1C", "1W", "1B", "1m", "1g", "1T", "1P", "1E", "1t", "1x", "1.5k", "1-", "1,", "1\x00", "1k\x00", "1\xeb", "1ｋ", "1\xff", "\xff")
	for c := range 256 {
		s := string([]byte{byte(c)})
		if _, unit := units[s]; !unit && (c < '0' || c > '9') {
			fails(t, readSize, api.EINVAL, "1"+s, s, s+"1", "1"+s+"k", "1k"+s)
		}
	}
}

// P11.1: one or more of 0 to 7.
func TestOctal(t *testing.T) {
	for _, n := range []int{0, 1, 7, 8, 9, 63, 64, 0o755, 0o7777, 1 << 31, 1<<53 + 1, top - 1, top} {
		s := strconv.FormatInt(int64(n), 8)
		for _, ahead := range []string{"", "0", "000", noughts} {
			reads(t, readOctal, ahead+s, n)
		}
	}
	reads(t, readOctal, "10", 8)
	reads(t, readOctal, "0777", 511)
	reads(t, readOctal, noughts, 0)
	reads(t, readOctal, "67405553164730777777", 0o67405553164730777777)
}

// P11.1: what is no octal number.
func TestOctalOfNone(t *testing.T) {
	fails(t, readOctal, api.EINVAL, "", "8", "9", "08", "09", "18", "80", "778", "787", "-", "-1", "-0", "+1", " 1", "1 ", "0o7", "0x7", "7k", "a", "1.0", "1\x00", "\xff", "7\xff", "７")
}

// P11.1: ERANGE above MaxNumber.
func TestOctalTooGreat(t *testing.T) {
	more := strconv.FormatInt(top+1, 8)
	for _, s := range []string{more, more + "0", "777777777777777777777", "1000000000000000000000", "1777777777777777777777", "2000000000000000000000", "2000000000000000000001", strings.Repeat("7", 500), "1" + noughts} {
		fails(t, readOctal, api.ERANGE, s, "0"+s, noughts+s)
	}
}
