package number

import (
	"strconv"

	"tinsel/api"
)

// The days of a year that stand ahead of each month, and ahead of the next year: of one without a leap day, and of one with it.
var daysAhead = [2][13]int{
	{0, 31, 59, 90, 120, 151, 181, 212, 243, 273, 304, 334, 365},
	{0, 31, 60, 91, 121, 152, 182, 213, 244, 274, 305, 335, 366},
}

// Seconds of a day; days from the first one of the year 0 to that of 1970; the last year that has a text.
const (
	daySeconds = 86400
	daysTo1970 = 719528
	lastYear   = 9999
)

// moment is a time by its parts.
type moment struct {
	year, month, day     int
	hour, minute, second int
}

// Date: the second that a text of touch says.
func Date(s string, now int64) (int64, api.Errno) {
	digits, second, dot := cut(s, '.')
	if !dot {
		second = "00"
	}
	if len(second) != 2 || !plain(second, 10) || !plain(digits, 10) {
		return 0, api.EINVAL
	}
	year, rest, ok := yearOf(digits, now)
	if !ok {
		return 0, api.EINVAL
	}
	m := moment{year, two(rest), two(rest[2:]), two(rest[4:]), two(rest[6:]), two(second)}
	if !m.exists() {
		return 0, api.EINVAL
	}
	return m.seconds(), api.OK
}

// yearOf: the year that digits begin with, or that of now, and the eight digits behind it; false: there is none.
func yearOf(digits string, now int64) (int, string, bool) {
	switch len(digits) {
	case 8:
		m, ok := momentOf(now)
		return m.year, digits, ok
	case 10:
		year := two(digits)
		if year < 69 {
			return 2000 + year, digits[2:], true
		}
		return 1900 + year, digits[2:], true
	case 12:
		return 100*two(digits) + two(digits[2:]), digits[4:], true
	}
	return 0, "", false
}

// two: the number of a text's first two digits.
func two(s string) int { return 10*int(s[0]-'0') + int(s[1]-'0') }

// Stamp: a second as text.
func Stamp(t int64) string {
	m, ok := momentOf(t)
	if !ok {
		return "?"
	}
	b := appendTwo(appendTwo(nil, m.year/100), m.year%100)
	b = appendTwo(append(b, '-'), m.month)
	b = appendTwo(append(b, '-'), m.day)
	b = appendTwo(append(b, ' '), m.hour)
	b = appendTwo(append(b, ':'), m.minute)
	b = appendTwo(append(b, ':'), m.second)
	return string(b)
}

// appendTwo: a number below 100, by two digits.
func appendTwo(b []byte, n int) []byte {
	if n < 10 {
		b = append(b, '0')
	}
	return strconv.AppendInt(b, int64(n), 10)
}

// leapDays: 1, if the year has a 29th of February, else 0.
func leapDays(year int) int {
	if year%4 == 0 && year%100 != 0 || year%400 == 0 {
		return 1
	}
	return 0
}

// yearBegin: the days from the first one of the year 0 to that of a year.
func yearBegin(year int) int {
	return 365*year + (year+3)/4 - (year+99)/100 + (year+399)/400
}

// monthBegin: the days of a year ahead of a month; month 13 is the next year.
func monthBegin(year, month int) int { return daysAhead[leapDays(year)][month-1] }

// exists: is there such a day, and such a time of it?
func (m moment) exists() bool {
	if m.month < 1 || m.month > 12 || m.day < 1 {
		return false
	}
	days := monthBegin(m.year, m.month+1) - monthBegin(m.year, m.month)
	return m.day <= days && m.hour <= 23 && m.minute <= 59 && m.second <= 59
}

// seconds: from the first one of 1970 on.
func (m moment) seconds() int64 {
	days := yearBegin(m.year) + monthBegin(m.year, m.month) + m.day - 1 - daysTo1970
	return int64(days)*daySeconds + int64(m.hour*3600+m.minute*60+m.second)
}

// momentOf: the parts of a second; false: its year is not 0 to 9999. That is asked first: sums of the rest can't wrap then.
func momentOf(t int64) (moment, bool) {
	first, behind := moment{0, 1, 1, 0, 0, 0}.seconds(), moment{lastYear + 1, 1, 1, 0, 0, 0}.seconds()
	if t < first || t >= behind {
		return moment{}, false
	}
	days, rest := int((t-first)/daySeconds), int((t-first)%daySeconds)
	year := days / 366 // a few years early at most, as some have fewer days
	for yearBegin(year+1) <= days {
		year++
	}
	days -= yearBegin(year)
	month := 1
	for monthBegin(year, month+1) <= days {
		month++
	}
	return moment{year, month, days - monthBegin(year, month) + 1, rest / 3600, rest / 60 % 60, rest % 60}, true
}
