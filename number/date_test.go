package number_test

import (
	"fmt"
	"math"
	"strings"
	"testing"

	"tinsel/api"
	"tinsel/number"
)

// The first second of the year 0, and the last one of the year 9999.
const (
	firstSecond = -62167219200
	lastSecond  = 253402300799
	day         = 86400
)

// P11.4: 8, 10 and 12 digits, with and without seconds.
func TestDate(t *testing.T) {
	const now = 1700000000 // in 2023
	for _, seconds := range []string{"", ".00", ".01", ".09", ".30", ".59"} {
		ss := "00"
		if seconds != "" {
			ss = seconds[1:]
		}
		dates(t, "11142213"+seconds, now, "2023-11-14 22:13:"+ss)
		dates(t, "2411142213"+seconds, now, "2024-11-14 22:13:"+ss)
		dates(t, "7001020304"+seconds, now, "1970-01-02 03:04:"+ss)
		dates(t, "184811142213"+seconds, now, "1848-11-14 22:13:"+ss)
		dates(t, "000001010000"+seconds, now, "0000-01-01 00:00:"+ss)
	}
	second(t, "7001010000.01", 0, 1)
	second(t, "197001010000", -1, 0)
	second(t, "197001012359.59", 0, day-1)
	second(t, "197001020000", 0, day)
	second(t, "196912312359.59", 0, -1)
	second(t, "200002290000", 0, 951782400)
	second(t, "202311142213.20", 0, 1700000000)
	second(t, "000001010000", 0, firstSecond)
	second(t, "999912312359.59", 0, lastSecond)
}

// P11.4: another number of digits, at each place.
func TestDateOfOtherLengths(t *testing.T) {
	digits := "197002030405060708091011121314"
	for n := range len(digits) + 1 {
		if n == 8 || n == 10 || n == 12 {
			continue
		}
		noDate(t, 0, digits[:n], digits[:n]+".00", strings.Repeat("1", n), strings.Repeat("0", n)+".01")
	}
	noDate(t, 0, noughts, strings.Repeat("01", 1000))
	for _, s := range []string{"01010000", "7001010000", "197001010000"} {
		second(t, s, 0, 0)
		second(t, s+".00", 0, 0)
		noDate(t, 0, s[1:], s+"0", "0"+s, s+".", s+".0", s+".1", s+".000", s+".001", s+".0000", s+".60", s+".61", s+".99", s+"..", s+"..00", s+".00.", s+".00.00", s+".0.", s+".+1", s+".-1", s+". 1", s+".1 ", s+".0a", s+".a0", s+".\xff\xff", s+".é", "."+s, "00."+s)
	}
	noDate(t, 0, "", ".", ".00", "..", "0101000.00", "0101.0000", "01.010000", "1.00", " .00")
}

// P11.4: all are digits.
func TestDateOfOtherBytes(t *testing.T) {
	for _, s := range []string{"01010101", "7001010101", "197001010101"} {
		for _, tail := range []string{"", ".01"} {
			for at := range len(s) + len(tail) {
				for c := range 256 {
					b := []byte(s + tail)
					if b[at] == '.' && c == '.' || b[at] != '.' && c >= '0' && c <= '9' {
						continue
					}
					b[at] = byte(c)
					noDate(t, 0, string(b))
				}
			}
		}
	}
	noDate(t, 0, "0101é00", "１１００", "-7001010000", "+7001010000", " 7001010000", "7001010000 ", "7001010000\n", "1970-01-01", "1970-01-01 00:00:00")
}

// daysOf: how many days a month has, written out.
func daysOf(month int, leap bool) int {
	switch month {
	case 2:
		if leap {
			return 29
		}
		return 28
	case 4, 6, 9, 11:
		return 30
	}
	return 31
}

// Some years, and whether each has a leap day.
var someYears = map[int]bool{
	0: true, 1: false, 3: false, 4: true, 99: false, 100: false, 200: false, 300: false, 400: true, 1582: false, 1600: true, 1700: false, 1800: false, 1896: true, 1900: false, 1904: true,
	1968: true, 1969: false, 1970: false, 1972: true, 1999: false, 2000: true, 2001: false, 2023: false, 2024: true, 2100: false, 2400: true, 9996: true, 9998: false, 9999: false,
}

// P11.4: months from 1 to 12, days that the month has.
func TestDays(t *testing.T) {
	for year, leap := range someYears {
		for month := range 100 {
			for d := range 100 {
				s := fmt.Sprintf("%04d%02d%02d1213", year, month, d)
				if month < 1 || month > 12 || d < 1 || d > daysOf(month, leap) {
					noDate(t, 0, s, s+".14")
					continue
				}
				dates(t, s+".14", 0, fmt.Sprintf("%04d-%02d-%02d 12:13:14", year, month, d))
			}
		}
	}
	noDate(t, 0, "190002290000", "202302290000", "210002290000", "202402300000", "02300000", "00010000", "13010000", "01000000", "01320000", "04310000")
	second(t, "000002290000", 0, firstSecond+59*day)
	second(t, "200012312359.59", 0, 978307199)
	second(t, "202402290000", 0, 1709164800)
}

// P11.4: hours to 23, minutes and seconds to 59.
func TestTimes(t *testing.T) {
	for hour := range 100 {
		for minute := range 100 {
			s := fmt.Sprintf("0101%02d%02d", hour, minute)
			if hour > 23 || minute > 59 {
				noDate(t, 0, s, s+".00", "70"+s, "1970"+s+".59")
				continue
			}
			second(t, s, 0, int64(hour*3600+minute*60))
			second(t, "1970"+s+".59", 0, int64(hour*3600+minute*60+59))
		}
	}
	for n := range 100 {
		if s := fmt.Sprintf("7001012359.%02d", n); n > 59 {
			noDate(t, 0, s)
		} else {
			second(t, s, 0, int64(day-60+n))
		}
	}
}

// P11.4: YY from 69 on is 19YY, else 20YY, whatever now is; CCYY is the year.
func TestYears(t *testing.T) {
	for _, now := range []int64{0, -1, lastSecond + 1, firstSecond - 1, math.MaxInt64, math.MinInt64} {
		for yy := range 100 {
			year := 1900 + yy
			if yy < 69 {
				year = 2000 + yy
			}
			dates(t, fmt.Sprintf("%02d03040506.07", yy), now, fmt.Sprintf("%04d-03-04 05:06:07", year))
		}
		for _, year := range []string{"0000", "0001", "0019", "0069", "0100", "1900", "1968", "1969", "1970", "2000", "2069", "9999"} {
			dates(t, year+"03040506.07", now, year+"-03-04 05:06:07")
		}
	}
	second(t, "6901010000", 0, -365*day)
	second(t, "6812312359.59", 0, 3124223999)
	second(t, "0001010000", 0, 946684800)
	second(t, "9912312359.59", 0, 946684799)
	second(t, "196901010000", 0, -365*day)
	noDate(t, 0, "0102290000", "6902290000")
	dates(t, "0002290000", 0, "2000-02-29 00:00:00")
	dates(t, "6802290000", 0, "2068-02-29 00:00:00")
}

// P11.4: without a year it is that of now.
func TestYearOfNow(t *testing.T) {
	for year, leap := range someYears {
		begin, e := number.Date(fmt.Sprintf("%04d01010000", year), 0)
		if e != api.OK {
			t.Fatal(year, e)
		}
		length := int64(365 * day)
		if leap {
			length += day
		}
		for _, now := range []int64{begin, begin + 1, begin + 58*day, begin + 59*day, begin + length/2, begin + length - day, begin + length - 1} {
			dates(t, "03040506.07", now, fmt.Sprintf("%04d-03-04 05:06:07", year))
			dates(t, "12312359.59", now, fmt.Sprintf("%04d-12-31 23:59:59", year))
			second(t, "01010000", now, begin)
			if leap {
				second(t, "02290000", now, begin+59*day)
			} else {
				noDate(t, now, "02290000")
			}
			noDate(t, now, "02300000", "00010000")
		}
		if year > 0 {
			dates(t, "03040506", begin-1, fmt.Sprintf("%04d-03-04 05:06:00", year-1))
		}
		if year < 9999 {
			dates(t, "03040506", begin+length, fmt.Sprintf("%04d-03-04 05:06:00", year+1))
		}
	}
	dates(t, "01010000", -1, "1969-01-01 00:00:00")
	dates(t, "01010000", firstSecond, "0000-01-01 00:00:00")
	dates(t, "12312359.59", lastSecond, "9999-12-31 23:59:59")
}

// P11.4: EINVAL, if the year of now is not 0 to 9999, but for a text that has a year.
func TestNowOutOfReach(t *testing.T) {
	for _, now := range []int64{firstSecond - 1, firstSecond - day, firstSecond - 366*day, lastSecond + 1, lastSecond + day, lastSecond + 366*day, 1 << 60, -1 << 60, math.MaxInt64, math.MaxInt64 - 1, math.MinInt64, math.MinInt64 + 1, math.MaxInt64 - lastSecond, math.MinInt64 - firstSecond} {
		noDate(t, now, "01010000", "01010000.00", "12312359.59", "06151200", "02290000", "99999999")
		second(t, "7001010000", now, 0)
		second(t, "197001010000.01", now, 1)
	}
}

// P11.4: YYYY-MM-DD hh:mm:ss.
func TestStamp(t *testing.T) {
	for _, x := range []struct {
		t    int64
		want string
	}{
		{0, "1970-01-01 00:00:00"}, {1, "1970-01-01 00:00:01"}, {-1, "1969-12-31 23:59:59"}, {59, "1970-01-01 00:00:59"}, {60, "1970-01-01 00:01:00"},
		{3599, "1970-01-01 00:59:59"}, {3600, "1970-01-01 01:00:00"}, {36000, "1970-01-01 10:00:00"}, {86399, "1970-01-01 23:59:59"}, {86400, "1970-01-02 00:00:00"},
		{-day, "1969-12-31 00:00:00"}, {-day - 1, "1969-12-30 23:59:59"},
		{31*day - 1, "1970-01-31 23:59:59"}, {31 * day, "1970-02-01 00:00:00"}, {59*day - 1, "1970-02-28 23:59:59"}, {59 * day, "1970-03-01 00:00:00"},
		{951782400 - 1, "2000-02-28 23:59:59"}, {951782400, "2000-02-29 00:00:00"}, {951782400 + day - 1, "2000-02-29 23:59:59"}, {951782400 + day, "2000-03-01 00:00:00"},
		{1709164799, "2024-02-28 23:59:59"}, {1709251199, "2024-02-29 23:59:59"}, {1709251200, "2024-03-01 00:00:00"}, {1677628799, "2023-02-28 23:59:59"}, {1677628800, "2023-03-01 00:00:00"},
		{-2203891200 - 1, "1900-02-28 23:59:59"}, {-2203891200, "1900-03-01 00:00:00"},
		{365*day - 1, "1970-12-31 23:59:59"}, {365 * day, "1971-01-01 00:00:00"}, {946684799, "1999-12-31 23:59:59"}, {978307200 - 1, "2000-12-31 23:59:59"}, {978307200, "2001-01-01 00:00:00"},
		{1700000000, "2023-11-14 22:13:20"}, {1<<31 - 1, "2038-01-19 03:14:07"}, {-1 << 31, "1901-12-13 20:45:52"},
		{firstSecond, "0000-01-01 00:00:00"}, {firstSecond + 60*day - 1, "0000-02-29 23:59:59"}, {firstSecond + 366*day - 1, "0000-12-31 23:59:59"}, {firstSecond + 366*day, "0001-01-01 00:00:00"},
		{lastSecond, "9999-12-31 23:59:59"}, {lastSecond - 365*day + 1, "9999-01-01 00:00:00"}, {lastSecond - 365*day, "9998-12-31 23:59:59"},
		{-62135596800, "0001-01-01 00:00:00"}, {-59011459200, "0100-01-01 00:00:00"}, {-30610224000, "1000-01-01 00:00:00"},
	} {
		is(t, fmt.Sprintf("Stamp(%d)", x.t), number.Stamp(x.t), x.want)
	}
}

// P11.4, R6: ?, if the year is not 0 to 9999.
func TestStampOutOfReach(t *testing.T) {
	for _, s := range []int64{firstSecond - 1, firstSecond - day, firstSecond - 400*366*day, lastSecond + 1, lastSecond + 2, lastSecond + day, 1 << 40, -1 << 40, 1 << 60, -1 << 60, math.MaxInt64, math.MaxInt64 - 1, math.MinInt64, math.MinInt64 + 1, math.MaxInt64 + firstSecond, math.MaxInt64 + firstSecond + 1, math.MinInt64 - firstSecond, math.MinInt64 - firstSecond - 1} {
		is(t, fmt.Sprintf("Stamp(%d)", s), number.Stamp(s), "?")
	}
}

// digitsOf: a stamp's digits, as Date reads them.
func digitsOf(stamp string) string {
	return stamp[:4] + stamp[5:7] + stamp[8:10] + stamp[11:13] + stamp[14:16] + "." + stamp[17:]
}

// P11.6: Date of Stamp's digits is the second: on each day of four centuries, at the ends, and with strides over all years.
func TestDateOfStamp(t *testing.T) {
	back := func(at int64) {
		if stamp := number.Stamp(at); len(stamp) == len("1970-01-01 00:00:00") {
			second(t, digitsOf(stamp), 0, at)
		} else {
			t.Errorf("Stamp(%d): %q", at, stamp)
		}
	}
	for d := range int64(146100) {
		back(d*day + d*7919%day)
		back(firstSecond + d*day)
		back(lastSecond - d*day)
	}
	for at := int64(firstSecond); at <= lastSecond; at += 76543210 {
		back(at)
	}
	for at := range int64(2 * day) {
		back(at - day)
	}
}
