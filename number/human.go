package number

import "strconv"

// Human: a size, short.
func Human(n int) string {
	if n < 0 {
		return "-" + short(uint64(-(n+1))+1) // of the least int there is no int of its size
	}
	return short(uint64(n))
}

// short: a size by its digits, or in the least unit that fits.
func short(size uint64) string {
	if size < 1024 {
		return strconv.FormatUint(size, 10)
	}
	unit, name := unitOf(size)
	if tenths := tenthsUp(size, unit); tenths < 100 {
		return strconv.FormatUint(tenths/10, 10) + "." + strconv.FormatUint(tenths%10, 10) + name
	}
	return strconv.FormatUint(wholeUp(size, unit), 10) + name
}

// unitOf: the least unit of which there are, rounded up, fewer than 1024; of E there always are.
func unitOf(size uint64) (uint64, string) {
	unit, name := uint64(1), ""
	for _, next := range "KMGTPE" {
		unit, name = unit*1024, string(next)
		if wholeUp(size, unit) < 1024 {
			break
		}
	}
	return unit, name
}

// wholeUp: a size in units, rounded up.
func wholeUp(size, unit uint64) uint64 {
	whole := size / unit
	if size%unit != 0 {
		whole++
	}
	return whole
}

// tenthsUp: a size in tenths of a unit, rounded up; the parts are told one by one, as ten times a size might wrap.
func tenthsUp(size, unit uint64) uint64 {
	return size/unit*10 + wholeUp(size%unit*10, unit)
}
