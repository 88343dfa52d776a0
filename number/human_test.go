package number_test

import (
	"fmt"
	"math"
	"testing"

	"tinsel/number"
)

// human: Human answers this, and of the number below 0 the same behind a -.
func human(t *testing.T, n int, want string) {
	t.Helper()
	is(t, fmt.Sprintf("Human(%d)", n), number.Human(n), want)
	if n != 0 {
		is(t, fmt.Sprintf("Human(%d)", -n), number.Human(-n), "-"+want)
	}
}

// P11.2: of a size below 1024 its digits.
func TestHumanOfDigits(t *testing.T) {
	for n := range 1024 {
		human(t, n, fmt.Sprint(n))
	}
	human(t, 0, "0")
	human(t, 1, "1")
	human(t, 1023, "1023")
}

// P11.2: in units, rounded up, below 10 to tenths.
func TestHumanOfK(t *testing.T) {
	for _, x := range []struct {
		n    int
		want string
	}{
		{1024, "1.0K"}, {1025, "1.1K"}, {1126, "1.1K"}, {1127, "1.2K"}, {1228, "1.2K"}, {1229, "1.3K"}, {1536, "1.5K"}, {1537, "1.6K"},
		{2047, "2.0K"}, {2048, "2.0K"}, {2049, "2.1K"}, {9 * 1024, "9.0K"}, {9*1024 + 1, "9.1K"},
		{10137, "9.9K"}, {10138, "10K"}, {10239, "10K"}, {10240, "10K"}, {10241, "11K"}, {11264, "11K"}, {11265, "12K"},
		{102400, "100K"}, {102401, "101K"}, {1022 * 1024, "1022K"}, {1022*1024 + 1, "1023K"},
		{1023*1024 - 1, "1023K"}, {1023 * 1024, "1023K"}, {1023*1024 + 1, "1.0M"}, {1024*1024 - 1, "1.0M"}, {1024 * 1024, "1.0M"}, {1024*1024 + 1, "1.1M"},
	} {
		human(t, x.n, x.want)
	}
}

// P11.2: the numbers just below, at and above each unit, and those that come to 10.0 and to 1024 by rounding up.
func TestHumanOfEachUnit(t *testing.T) {
	names := "KMGTPE"
	unit := 1
	for i := range len(names) {
		unit *= 1024
		u := names[i : i+1]
		human(t, unit, "1.0"+u)
		human(t, unit+1, "1.1"+u)
		human(t, unit+unit/2, "1.5"+u)
		human(t, unit+unit/2+1, "1.6"+u)
		human(t, 2*unit, "2.0"+u)
		human(t, 7*unit, "7.0"+u)
		human(t, 7*unit+1, "7.1"+u)
		if i > 0 {
			human(t, unit-1, "1.0"+u)
			human(t, unit-unit/1024+1, "1.0"+u)
			human(t, unit-unit/1024, "1023"+names[i-1:i])
		}
		if u == "E" {
			break // there are no more of it
		}
		human(t, 9*unit+unit/10*9, "9.9"+u)
		human(t, 9*unit+unit/10*9+10, "10"+u)
		human(t, 10*unit-1, "10"+u)
		human(t, 10*unit, "10"+u)
		human(t, 10*unit+1, "11"+u)
		human(t, 11*unit-1, "11"+u)
		human(t, 11*unit, "11"+u)
		human(t, 1000*unit, "1000"+u)
		human(t, 1022*unit+1, "1023"+u)
		human(t, 1023*unit, "1023"+u)
	}
}

// P11.2, R6: the greatest and the least int.
func TestHumanAtItsEnds(t *testing.T) {
	human(t, math.MaxInt, "8.0E")
	is(t, "the least int", number.Human(math.MinInt), "-8.0E")
	is(t, "one above the least int", number.Human(math.MinInt+1), "-8.0E")
	human(t, top, "889P")
	human(t, math.MaxInt-math.MaxInt/79, "7.9E")
	human(t, 1<<62, "4.0E")
	human(t, 1<<62+1, "4.1E")
	human(t, 1<<62-1, "4.0E")
	human(t, 8881416732800000000, "7.8E")
}
