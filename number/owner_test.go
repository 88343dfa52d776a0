package number_test

import (
	"testing"

	"tinsel/api"
)

// P11.5: U, U:G, U: or :G, of digits; -1 for what is not there.
func TestOwner(t *testing.T) {
	owns(t, "1", 1, -1)
	owns(t, "1:2", 1, 2)
	owns(t, "1:", 1, -1)
	owns(t, ":2", -1, 2)
	owns(t, "0", 0, -1)
	owns(t, "0:0", 0, 0)
	owns(t, "0:", 0, -1)
	owns(t, ":0", -1, 0)
	owns(t, "12:345", 12, 345)
	owns(t, "1000", 1000, -1)
	owns(t, "007", 7, -1)
	owns(t, "007:"+noughts+"8", 7, 8)
	owns(t, noughts, 0, -1)
	owns(t, ":"+noughts, -1, 0)
}

// P11.5: 2147483647, and above it.
func TestOwnerAtItsEnd(t *testing.T) {
	const most = "2147483647"
	owns(t, most, 2147483647, -1)
	owns(t, most+":", 2147483647, -1)
	owns(t, ":"+most, -1, 2147483647)
	owns(t, most+":"+most, 2147483647, 2147483647)
	owns(t, noughts+most+":0"+most, 2147483647, 2147483647)
	for _, more := range []string{"2147483648", "2147483650", "4294967295", "4294967296", "4294967297", "21474836470", "999999999999999999", "18446744073709551616", "18446744073709551617", nines} {
		noOwner(t, api.ERANGE, more, more+":", ":"+more, "1:"+more, more+":1", more+":"+more, "0"+more, "0:"+noughts+more, most+":"+more, more+":"+most)
	}
}

// P11.5: what is no owner; told ahead of a number that is too great.
func TestNoOwner(t *testing.T) {
	noOwner(t, api.EINVAL, "", ":", "::", ":::", "1::", "::1", "1::2", "1:2:", ":1:", "1:2:3", ":1:2", "1:2:3:4")
	for _, bad := range []string{"-", "-1", "+1", "1-", "1+", " ", " 1", "1 ", "a", "1a", "root", "1.", "1,2", "0x1", "\x00", "\xff", "1\xff", "１", "٣"} {
		noOwner(t, api.EINVAL, bad, bad+":", ":"+bad, "1:"+bad, bad+":1", bad+":"+bad, bad+":2147483648", "2147483648:"+bad, nines+":"+bad, bad+":"+nines)
	}
	noOwner(t, api.EINVAL, "2147483648:1:", "2147483648::", "::2147483648", "2147483648:2:3")
}
