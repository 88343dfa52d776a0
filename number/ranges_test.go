package number_test

import (
	"fmt"
	"math"
	"strconv"
	"testing"

	"tinsel/api"
	"tinsel/number"
)

// P11.3: one item of each kind.
func TestOneRange(t *testing.T) {
	ranges(t, "1", 1, 1)
	ranges(t, "7", 7, 7)
	ranges(t, "2-5", 2, 5)
	ranges(t, "5-5", 5, 5)
	ranges(t, "9-10", 9, 10)
	ranges(t, "3-", 3, -1)
	ranges(t, "1-", 1, -1)
	ranges(t, "-4", 1, 4)
	ranges(t, "-1", 1, 1)
	ranges(t, "10", 10, 10)
	ranges(t, "10-20", 10, 20)
	ranges(t, "-100", 1, 100)
}

// P11.3: noughts ahead.
func TestRangesOfNoughts(t *testing.T) {
	ranges(t, "007", 7, 7)
	ranges(t, noughts+"7", 7, 7)
	ranges(t, "02-0003", 2, 3)
	ranges(t, "10-"+noughts+"11", 10, 11)
	ranges(t, noughts+"9-10", 9, 10)
	ranges(t, noughts+"3-", 3, -1)
	ranges(t, "-"+noughts+"3", 1, 3)
	ranges(t, noughts+"5-5", 5, 5)
}

// P11.3: what is no item, wherever it stands.
func TestNoRanges(t *testing.T) {
	for _, bad := range []string{"", "-", "--", "---", "1--2", "1--", "--1", "-1-", "-1-2", "1-2-", "1-2-3", "+1", "1+", "+1-2", "1-+2", " ", " 1", "1 ", "1 -2", "1- 2", "1\t", "a", "1a", "a-1", "1-a", "-a", "a-", "1.", "1;2", "1:2", "1k", "0x1", "\x00", "\xff", "1\xff", "1-\xff", "\xff-", "１", "é", "1－2"} {
		noRanges(t, api.EINVAL, bad, "4,"+bad, bad+",4", "4,"+bad+",9", "4-,"+bad, bad+",-4")
	}
	noRanges(t, api.EINVAL, ",", ",,", "1,", ",1", "1,,2", ",1,2", "1,2,", ",-")
}

// P11.3: N or M is 0.
func TestRangesOfNought(t *testing.T) {
	for _, bad := range []string{"0", "00", noughts, "0-", "-0", "-" + noughts, "0-0", "0-1", "00-1", "1-0", "1-00", "0-" + strconv.Itoa(top), noughts + "-"} {
		noRanges(t, api.EINVAL, bad, "4,"+bad, bad+",4", "1-,"+bad)
	}
}

// P11.3: M is below N.
func TestFallingRanges(t *testing.T) {
	for _, bad := range []string{"3-1", "2-1", "10-9", "100-99", "10-2", "20-11", "03-2", "2-" + noughts + "1", noughts + "2-1", "999999999999999999-999999999999999998", "9-8"} {
		noRanges(t, api.EINVAL, bad, "4,"+bad, bad+",4", "1-,"+bad)
	}
	ranges(t, "09-10", 9, 10)
	ranges(t, "2-10", 2, 10)
	ranges(t, "11-20", 11, 20)
	ranges(t, "99-100", 99, 100)
	ranges(t, "999999999999999998-999999999999999999", top-1, top)
}

// P11.3: MaxNumber and above.
func TestGreatRanges(t *testing.T) {
	const most, more = "999999999999999999", "1000000000000000000"
	ranges(t, most, top, top)
	ranges(t, most+"-", top, -1)
	ranges(t, "-"+most, 1, top)
	ranges(t, "1-"+most, 1, top)
	ranges(t, most+"-"+most, top, top)
	ranges(t, noughts+most, top, top)
	ranges(t, most+",1", 1, 1, top, top)
	ranges(t, "1-"+most+","+most+"-", 1, -1)
	for _, great := range []string{more, more + "-", "-" + more, "1-" + more, most + "-" + more, more + "-" + more, "9223372036854775808", "18446744073709551617", "18446744073709551617-", "-18446744073709551617", "3-18446744073709551620", nines, nines + "-", "1-" + nines, nines + "-1" + nines, nines + "-" + nines} {
		noRanges(t, api.ERANGE, great, "4,"+great, great+",4", "1-,"+great, great+",1-", "4,"+great+",9")
	}
}

// P11.3, R2: whatever is none of the text is told ahead of what is too great, also of numbers that both are.
func TestRangesNoneFirst(t *testing.T) {
	const more = "1000000000000000000"
	for _, great := range []string{more, more + "-", "-" + more, "3-" + more, nines, nines + "-"} {
		for _, bad := range []string{"", "x", "0", "-", "3-1", "1-2-3", "0-" + more, more + "-0", more + "-1"} {
			noRanges(t, api.EINVAL, great+","+bad, bad+","+great, "1,"+great+",2,"+bad)
		}
	}
	noRanges(t, api.EINVAL, more+"-1", more+"-999999999999999999", more+"-"+noughts+"1", "1000000000000000001-"+more, nines+"-"+more, "2"+nines+"-1"+nines, nines+"-"+nines[1:], "0"+nines+"-"+nines[1:])
	noRanges(t, api.ERANGE, more+"-1000000000000000001", more+"-"+noughts+more, noughts+more+"-"+more, "1"+nines+"-2"+nines, nines[1:]+"-"+nines)
}

// P11.3: rising, those that meet or touch as one.
func TestRangesAsOne(t *testing.T) {
	ranges(t, "7-,3-4,1,5", 1, 1, 3, 5, 7, -1)
	ranges(t, "1,2", 1, 2)
	ranges(t, "2,1", 1, 2)
	ranges(t, "1,3", 1, 1, 3, 3)
	ranges(t, "3,1", 1, 1, 3, 3)
	ranges(t, "1,3,2", 1, 3)
	ranges(t, "5,5,5", 5, 5)
	ranges(t, "2-4,2-4", 2, 4)
	ranges(t, "1-3,4-6", 1, 6)
	ranges(t, "4-6,1-3", 1, 6)
	ranges(t, "1-3,5-6", 1, 3, 5, 6)
	ranges(t, "5-6,1-3", 1, 3, 5, 6)
	ranges(t, "1-5,3-9", 1, 9)
	ranges(t, "3-9,1-5", 1, 9)
	ranges(t, "1-9,3-5", 1, 9)
	ranges(t, "3-5,1-9", 1, 9)
	ranges(t, "2-9,2-5", 2, 9)
	ranges(t, "2-5,2-9", 2, 9)
	ranges(t, "1-9,9", 1, 9)
	ranges(t, "9,1-9", 1, 9)
	ranges(t, "1-9,2-3,11,5-6,10", 1, 11)
	ranges(t, "1-9,2-3,11,5-6", 1, 9, 11, 11)
	ranges(t, "9,7,5,3,1", 1, 1, 3, 3, 5, 5, 7, 7, 9, 9)
	ranges(t, "9,8,7,3,2,1", 1, 3, 7, 9)
	ranges(t, "-3,2-5", 1, 5)
	ranges(t, "-3,5", 1, 3, 5, 5)
	ranges(t, "-3,-5,-1", 1, 5)
	ranges(t, "100,20,3", 3, 3, 20, 20, 100, 100)
}

// P11.3: a range without an end takes in what stands behind its begin.
func TestRangesWithoutAnEnd(t *testing.T) {
	ranges(t, "5-,9", 5, -1)
	ranges(t, "9,5-", 5, -1)
	ranges(t, "5-,9-", 5, -1)
	ranges(t, "9-,5-", 5, -1)
	ranges(t, "5-,5", 5, -1)
	ranges(t, "5,5-", 5, -1)
	ranges(t, "5-,4", 4, -1)
	ranges(t, "5-,3", 3, 3, 5, -1)
	ranges(t, "5-,3-4", 3, -1)
	ranges(t, "5-,3-9", 3, -1)
	ranges(t, "3-9,5-", 3, -1)
	ranges(t, "5-,7-9,20,30-", 5, -1)
	ranges(t, "5-,-4", 1, -1)
	ranges(t, "5-,-3", 1, 3, 5, -1)
	ranges(t, "-3,5-,1-", 1, -1)
	ranges(t, "5-,999999999999999999", 5, -1)
	ranges(t, "5-999999999999999999,6-", 5, -1)
	ranges(t, "1-999999999999999998,999999999999999999-", 1, -1)
}

// has: Has answers yes of these numbers, and no of those.
func has(t *testing.T, l []api.Range, yes, no []int) {
	t.Helper()
	for _, n := range yes {
		if !number.Has(l, n) {
			t.Errorf("Has(%v, %d): false", l, n)
		}
	}
	for _, n := range no {
		if number.Has(l, n) {
			t.Errorf("Has(%v, %d): true", l, n)
		}
	}
}

// P11.3: from Lo to Hi; without an end from Lo on.
func TestHas(t *testing.T) {
	least, greatest := math.MinInt, math.MaxInt
	has(t, nil, nil, []int{0, 1, -1, least, greatest})
	has(t, between(3, 5), []int{3, 4, 5}, []int{2, 6, 0, -3, -4, least, greatest})
	has(t, between(3, 3), []int{3}, []int{2, 4, -3, 0})
	has(t, between(3, -1), []int{3, 4, 999, top, greatest}, []int{2, 1, 0, -1, least})
	has(t, between(1, 2, 5, 6, 9, -1), []int{1, 2, 5, 6, 9, 10, greatest}, []int{0, 3, 4, 7, 8, least})
	has(t, between(9, 9, 5, 6, 1, 1), []int{1, 5, 6, 9}, []int{0, 2, 4, 7, 8, 10})
	has(t, between(1, 9, 3, 4), []int{1, 2, 5, 9}, []int{0, 10})
	has(t, between(1, top), []int{1, top}, []int{0, top + 1, greatest})
}

// P11.3: of any ranges, also of such as Ranges does not tell.
func TestHasOfOddRanges(t *testing.T) {
	least, greatest := math.MinInt, math.MaxInt
	has(t, between(5, 3), nil, []int{2, 3, 4, 5, 6, least, greatest})
	has(t, between(5, 3, 4, 4), []int{4}, []int{3, 5})
	has(t, between(1, 0), nil, []int{0, 1, 2})
	has(t, between(0, 0), []int{0}, []int{-1, 1})
	has(t, between(0, 2), []int{0, 1, 2}, []int{-1, 3})
	has(t, between(-5, -3), []int{-5, -4, -3}, []int{-6, -2, -1, 0, 3, 4, 5})
	has(t, between(-5, 2), []int{-5, -1, 0, 2}, []int{-6, 3})
	has(t, between(-5, -1), []int{-5, -1, 0, 7, greatest}, []int{-6, least})
	has(t, between(-1, -1), []int{-1, 0, 1, greatest}, []int{-2, least})
	has(t, between(0, -1), []int{0, 1, greatest}, []int{-1, least})
	has(t, between(2, -2), nil, []int{-3, -2, -1, 0, 1, 2, 3, greatest, least})
	has(t, between(3, -2, -4, -3), []int{-4, -3}, []int{-5, -2, 3, 4})
	has(t, between(least, greatest), []int{least, -1, 0, 1, greatest}, nil)
	has(t, between(least, least), []int{least}, []int{least + 1, -1, 0, greatest})
	has(t, between(greatest, greatest), []int{greatest}, []int{greatest - 1, 0, least})
	has(t, between(greatest, least), nil, []int{least, -1, 0, 1, greatest})
	has(t, between(least, -1), []int{least, 0, greatest}, nil)
	has(t, between(greatest, -1), []int{greatest}, []int{greatest - 1, least})
}

// P11.3: N, N- or N-M, parted by commas.
func TestPrint(t *testing.T) {
	least, greatest := math.MinInt, math.MaxInt
	for _, x := range []struct {
		l    []api.Range
		want string
	}{
		{nil, ""}, {between(3, 3), "3"}, {between(3, -1), "3-"}, {between(3, 5), "3-5"}, {between(3, 4), "3-4"},
		{between(1, 1, 3, 5, 7, -1), "1,3-5,7-"}, {between(7, -1, 3, 5, 1, 1), "7-,3-5,1"}, {between(1, 2, 2, 3, 1, 2), "1-2,2-3,1-2"},
		{between(-1, -1), "-1"}, {between(0, -1), "0-"}, {between(0, 0), "0"}, {between(1, -1), "1-"}, {between(-2, -1), "-2-"},
		{between(-3, -3), "-3"}, {between(-3, -2), "-3--2"}, {between(-3, 4), "-3-4"}, {between(-1, 0), "-1-0"}, {between(-1, -2), "-1--2"},
		{between(5, 3), "5-3"}, {between(5, -3), "5--3"}, {between(1, 0), "1-0"}, {between(-1, -1, -1, -1), "-1,-1"}, {between(10, 100), "10-100"},
		{between(1, top), "1-999999999999999999"}, {between(top, top), "999999999999999999"},
		{between(least, greatest), "-9223372036854775808-9223372036854775807"}, {between(greatest, least), "9223372036854775807--9223372036854775808"},
		{between(least, least, greatest, -1), "-9223372036854775808,9223372036854775807-"},
	} {
		is(t, fmt.Sprintf("Print(%v)", x.l), number.Print(x.l), x.want)
	}
}

// again: what a call answered that went well the first time.
func again(t *testing.T, s string) []api.Range {
	t.Helper()
	l, e := number.Ranges(s)
	if e != api.OK {
		t.Errorf("Ranges(%s): %v", brief(s), e)
	}
	return l
}

// P11.6: Ranges of Print of Ranges is Ranges.
func TestRangesOfPrint(t *testing.T) {
	for _, s := range everyText("123-,", 7) {
		l, e := number.Ranges(s)
		if e != api.OK {
			continue
		}
		is(t, "Ranges of Print of "+s, listed(again(t, number.Print(l)), api.OK), listed(l, api.OK))
	}
	for _, s := range []string{"1-999999999999999999", "999999999999999999", "999999999999999999-", "-999999999999999999", "00012-,0003", "10,8,6-7,1-3,2"} {
		l := again(t, s)
		is(t, "Ranges of Print of "+s, listed(again(t, number.Print(l)), api.OK), listed(l, api.OK))
	}
}
