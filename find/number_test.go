package find_test

import (
	"fmt"
	"math"
	"math/big"
	"testing"

	"tinsel/api"
)

// Tests that take an N alone.
var counting = split("-links -inum -user -group -uid -gid -size -mtime -atime -ctime -mmin -amin -cmin")

// P20.2: an N is digits, with +, - or nothing ahead.
func TestNoN(t *testing.T) {
	bad := []string{"", "+", "-", "++1", "+-1", "-+1", "--1", "- 1", "1+", "1-", " 1", "1 ", "1\n", "a", "1a", "a1", "+a", "1.5", ".5", "1e3", "0x1", "1_0", "1,2", "1G", "1K", "1M", "root", "-print", "(", ")", "!", "\x00", "1\x00", "１", "\xb9", "+1000000000000000000", "1000000000000000000", "-1000000000000000000", "-99999999999999999999999", "9223372036854775807", "18446744073709551617"}
	for _, name := range counting {
		for _, n := range bad {
			refuse(t, []string{name, n}, []string{name, n, "-print"}, []string{"a", "(", name, n, ")"}, []string{"-true", ",", name, n})
		}
		refuseAll(t, name, "! "+name, "( "+name+" )", name+" 1 1", name+" 1 "+name)
		for _, good := range split("0 1 00 007 +0 -0 +1 -1 +007 -010 999999999999999999 +0999999999999999999 -999999999999999999") {
			agree(t, name+" "+good, of(t, name+" "+good).String(), "( "+name+" "+good+" -a -print )")
		}
		if name != "-size" {
			refuseAll(t, name+" 1c", name+" 1w", name+" 1k", name+" +1b", name+" c")
		}
	}
}

// P20.2: the Stat's numbers; the others say nothing.
func TestStatsNumbers(t *testing.T) {
	numbers := []int{math.MinInt, -1, 0, 1, 2, 6, 7, 8, 10, 999999999999999998, 999999999999999999, math.MaxInt}
	for _, name := range split("-links -inum -user -group -uid -gid") {
		for _, n := range []int{0, 1, 7, 999999999999999999} {
			more, less, just := of(t, fmt.Sprint(name, " +", n)), of(t, fmt.Sprint(name, " -", n)), of(t, fmt.Sprint(name, " 00", n))
			for _, has := range numbers {
				s := api.Stat{Ino: 7, Links: 7, Uid: 7, Gid: 7, Size: has, Blocks: has, Mode: 7, Atime: int64(has)}
				if has == 7 {
					s = api.Stat{Ino: 1, Links: 1, Uid: 1, Gid: 1, Size: 1, Blocks: 7, Mode: 7}
				}
				switch name {
				case "-links":
					s.Links = has
				case "-inum":
					s.Ino = has
				case "-user", "-uid":
					s.Uid = has
				default:
					s.Gid = has
				}
				v := with(s)
				got := fmt.Sprint(more.Try(v, 0, nil).True, less.Try(v, 0, nil).True, just.Try(v, 0, nil).True)
				agree(t, fmt.Sprint(name, " ", n, " of ", has), got, fmt.Sprint(has > n, has < n, has == n))
			}
		}
	}
}

// P20.2: a size is counted in units, rounded up.
func TestSize(t *testing.T) {
	sizes := []int{math.MinInt, -1025, -1024, -513, -512, -2, -1, 0, 1, 2, 3, 4, 5, 511, 512, 513, 1023, 1024, 1025, 1536, 1537, 2047, 2048, 2049, api.MaxFile, math.MaxInt - 1, math.MaxInt}
	for unit, bytes := range map[string]int64{"c": 1, "w": 2, "k": 1024, "b": 512, "": 512} {
		for _, n := range []int64{0, 1, 2, 3, 4, 5, 512, 513, 1024, 8704, 999999999999999999} {
			more, less, just := of(t, fmt.Sprint("-size +", n, unit)), of(t, fmt.Sprint("-size -", n, unit)), of(t, fmt.Sprint("-size ", n, unit))
			for _, size := range sizes {
				v := with(api.Stat{Mode: api.TypeReg, Size: size, Blocks: 3})
				up := new(big.Int).Neg(new(big.Int).Div(new(big.Int).Neg(big.NewInt(int64(size))), big.NewInt(bytes)))
				cmp := up.Cmp(big.NewInt(n))
				got := fmt.Sprint(more.Try(v, 0, nil).True, less.Try(v, 0, nil).True, just.Try(v, 0, nil).True)
				agree(t, fmt.Sprint("-size ", n, unit, " of ", size), got, fmt.Sprint(cmp > 0, cmp < 0, cmp == 0))
			}
		}
	}
	v := with(api.Stat{Mode: api.TypeReg, Size: 1025})
	holds(t, true, v, 0, "-size 1025c", "-size 513w", "-size 2k", "-size 3b", "-size 3", "-size +1k", "-size -3k", "-size 003b")
	holds(t, false, v, 0, "-size 1k", "-size 2", "-size 512w", "-size 1024c", "-size +2k", "-size -2k")
}

// P20.2: what is no size.
func TestNoSize(t *testing.T) {
	refuseAll(t, "-size c", "-size +c", "-size -k", "-size w", "-size b", "-size 1K", "-size 1C", "-size 1M", "-size 1G", "-size 1ck", "-size 1cc", "-size c1", "-size 1kb", "-size 1x", "-size 1d", "-size +k1", "-size k+1", "-size 1+k", "-size 1 k", "-size 1000000000000000000c", "-size --1c", "-size +-1k", "-size -", "-size +", "-size")
	refuse(t, []string{"-size", ""}, []string{"-size", "1 k"}, []string{"-size", "1c "}, []string{"-size", "1\xff"}, []string{"-size", "\x00"})
}

// stamps: a file with one time, by the letter of the tests of that time; the others are far away.
func stamps(letter byte, at int64) api.Visit {
	s := api.Stat{Mode: api.TypeReg, Mtime: math.MinInt64 / 2, Atime: math.MinInt64 / 2, Ctime: math.MinInt64 / 2}
	switch letter {
	case 'm':
		s.Mtime = at
	case 'a':
		s.Atime = at
	case 'c':
		s.Ctime = at
	}
	return with(s)
}

// wholeUnits: now less then, as near as an int64 comes to it, in units, rounded down.
func wholeUnits(now, then, unit int64) *big.Int {
	d := new(big.Int).Sub(big.NewInt(now), big.NewInt(then))
	for _, end := range []int64{math.MinInt64, math.MaxInt64} {
		if e := big.NewInt(end); d.Cmp(e) == e.Sign() {
			d = e
		}
	}
	return d.Div(d, big.NewInt(unit)) // Euclid's, which rounds down
}

// P20.2: now less a time, in days or minutes, rounded down.
func TestAges(t *testing.T) {
	ends := []int64{math.MinInt64, math.MinInt64 + 1, math.MinInt64/2 - 1, math.MaxInt64 / 2, math.MaxInt64 - 1, math.MaxInt64}
	near := []int64{-2 * 86400, -86401, -86400, -86399, -61, -60, -59, -1, 0, 1, 59, 60, 61, 119, 120, 86399, 86400, 86401, 172799, 172800}
	for _, letter := range []byte("mac") {
		for name, unit := range map[string]int64{"time": 86400, "min": 60} {
			for _, n := range []int64{0, 1, 2, 1440, math.MaxInt64 / 86400, math.MaxInt64 / 60, math.MaxInt64/60 + 1} {
				test := fmt.Sprintf("-%c%s ", letter, name)
				more, less, just := of(t, fmt.Sprint(test, "+", n)), of(t, fmt.Sprint(test, "-", n)), of(t, fmt.Sprint(test, n))
				for _, now := range append([]int64{0, 1, -1, 1000000, 86400, -86400}, ends...) {
					for _, then := range append(near, ends...) {
						v := stamps(letter, then)
						cmp := wholeUnits(now, then, unit).Cmp(big.NewInt(n))
						got := fmt.Sprint(more.Try(v, now, nil).True, less.Try(v, now, nil).True, just.Try(v, now, nil).True)
						agree(t, fmt.Sprint(test, n, " of ", then, " at ", now), got, fmt.Sprint(cmp > 0, cmp < 0, cmp == 0))
					}
				}
			}
		}
	}
}

// P20.2: the edges of a day and of a minute, and times ahead of now.
func TestEdgesOfAges(t *testing.T) {
	for _, c := range split("m a c") {
		day, min := "-"+c+"time ", "-"+c+"min "
		then := int64(1000000)
		v := stamps(c[0], then)
		holds(t, true, v, then, day+"0", min+"0", day+"-1", min+"-1")
		holds(t, false, v, then, day+"+0", day+"-0", min+"+0", min+"-0", day+"1")
		holds(t, true, v, then+86399, day+"0", min+"1439", min+"+1438")
		holds(t, true, v, then+86400, day+"1", day+"+0", min+"1440", day+"-2")
		holds(t, false, v, then+86400, day+"0", day+"+1", day+"-1")
		holds(t, true, v, then+59, min+"0")
		holds(t, true, v, then+60, min+"1", min+"+0", day+"0")
		holds(t, true, v, then-1, day+"-0", min+"-0")
		holds(t, false, v, then-1, day+"0", day+"+0", min+"0", min+"+0", day+"1", min+"1")
	}
}

// P20.2: a difference that passes what there are numbers for is the last one of these.
func TestFarAges(t *testing.T) {
	old, soon := stamps('m', math.MinInt64), stamps('m', math.MaxInt64)
	holds(t, true, old, math.MaxInt64, "-mtime 106751991167300", "-mmin 153722867280912930", "-mtime +0")
	holds(t, true, old, 0, "-mtime 106751991167300", "-mmin 153722867280912930")
	holds(t, true, old, -1, "-mtime 106751991167300", "-mmin 153722867280912930")
	holds(t, true, old, math.MinInt64, "-mtime 0", "-mmin 0")
	holds(t, true, soon, math.MinInt64, "-mtime -0", "-mmin -0")
	holds(t, false, soon, math.MinInt64, "-mtime +0", "-mmin +0", "-mtime 0")
	holds(t, true, soon, math.MaxInt64, "-mtime 0", "-mmin 0")
	holds(t, true, soon, math.MaxInt64-1, "-mtime -0")
}
