package page_test

import (
	"fmt"
	"math"
	"strings"
	"testing"

	"tinsel/api"
	"tinsel/page"
)

// P17.3: the least place and the greatest one.
func TestBounds(t *testing.T) {
	for _, x := range []struct{ l, want string }{
		{"", "0,0 0,0"},
		{"a 0,0", "0,0 0,0"}, {"a 3,4", "3,4 3,4"}, {" 3,4", "3,4 3,4"}, {"abc 3,4", "3,4 5,4"}, {"ab 3,4", "3,4 4,4"},
		{"abc -3,-4", "-3,-4 -1,-4"}, {"a -3,-4", "-3,-4 -3,-4"}, {" -3,-4", "-3,-4 -3,-4"}, {"abc -1,-1", "-1,-1 1,-1"},
		{"abc 2,5| 7,-1", "2,-1 7,5"}, {"abcdefgh 2,5| 7,-1", "2,-1 9,5"}, {" 7,-1|abc 2,5", "2,-1 7,5"},
		{"a 1,9|b 9,1", "1,1 9,9"}, {"a 9,9|b 1,1", "1,1 9,9"}, {"a -1,-9|b -9,-1", "-9,-9 -1,-1"},
		{"abcdef 0,0|x 3,0", "0,0 5,0"}, {"x 3,0|abcdef 0,0", "0,0 5,0"}, {"a 5,5|b 5,5", "5,5 5,5"},
		{"a 1,1|b 2,2|c 3,3", "1,1 3,3"}, {"b 2,2|a 1,1|c 3,3", "1,1 3,3"}, {"c 3,3|b 2,2|a 1,1", "1,1 3,3"},
		{" 0,0| 0,0", "0,0 0,0"}, {" 4,0| 0,4", "0,0 4,4"}, {"\u00e4 0,0", "0,0 1,0"}, {"a\nb 0,0", "0,0 2,0"}, {"\t\t 1,0", "1,0 2,0"}, {"\x00 1,0", "1,0 1,0"},
	} {
		told(t, "Bounds "+x.l, bounds(items(x.l)), x.want)
	}
	told(t, "Bounds of an empty list", bounds([]api.Item{}), "0,0 0,0")
	long := strings.Repeat("x", 100000)
	told(t, "Bounds of a long text", bounds([]api.Item{item(long, -5+1i), item("a", 7)}), "-5,0 99994,1")
}

// P17.3: as many places as there may be, each beyond the others.
func TestBoundsOfMany(t *testing.T) {
	var l []api.Item
	for i := range 1000 {
		n := float64(i + 1)
		l = append(l, item("a", complex(-n, n)), item("bb", complex(n, -n)))
	}
	told(t, "Bounds", bounds(l), "-1000,-1000 1001,1000")
	told(t, "Bounds", bounds(l[:1999]), "-1000,-999 1000,1000")
}

// P17.3: what may not be is at 0, and counts there; what just may be is where it is.
func TestBoundsOfNoPlaces(t *testing.T) {
	for _, at := range noPlaces() {
		told(t, fmt.Sprint("Bounds of ", at), bounds([]api.Item{item("abc", at)}), "0,0 2,0")
		told(t, fmt.Sprint("Bounds with ", at), bounds([]api.Item{item("a", 5+6i), item("abc", at)}), "0,0 5,6")
		told(t, fmt.Sprint("Bounds with ", at), bounds([]api.Item{item("abc", at), item("a", -5-6i)}), "-5,-6 2,0")
	}
	for _, at := range farPlaces {
		told(t, "Bounds far away", bounds([]api.Item{item("a", at)}), spot(at)+" "+spot(at))
	}
	told(t, "Bounds far apart", bounds([]api.Item{item("a", far-far*1i), item("", -far+far*1i)}), fmt.Sprint(-far, ",", -far, " ", far, ",", far))
}

// P17.3: each place and by.
func TestShift(t *testing.T) {
	for _, x := range []struct {
		l    string
		by   complex128
		want string
	}{
		{"", 3 + 4i, ""},
		{"a 0,0", 3 + 4i, "a 3,4"},
		{"a 1,2|bb -3,-4| 5,-6", 0, "a 1,2|bb -3,-4| 5,-6"},
		{"a 1,2|bb -3,-4| 5,-6", 1, "a 2,2|bb -2,-4| 6,-6"},
		{"a 1,2|bb -3,-4| 5,-6", -1i, "a 1,1|bb -3,-5| 5,-7"},
		{"a 1,2|bb -3,-4| 5,-6", -10 + 10i, "a -9,12|bb -13,6| -5,4"},
		{"a 1,2|a 1,2|a 1,2", 3 + 4i, "a 4,6|a 4,6|a 4,6"},
		{"x\ny\tz\x00\xff 7,8", -7 - 8i, "x\ny\tz\x00\xff 0,0"},
	} {
		told(t, fmt.Sprintf("Shift(%q, %v)", x.l, x.by), laid(page.Shift(items(x.l), x.by)), x.want)
	}
	told(t, "Shift of an empty list", laid(page.Shift([]api.Item{}, 1)), "")
}

// P17.3: what may not be any more by the sum is 0, all of it; the others are where they should be.
func TestShiftTooFar(t *testing.T) {
	shifts := func(at, by, want complex128) {
		t.Helper()
		l := page.Shift([]api.Item{item("a", 1), item("b", at), item("c", -1)}, by)
		told(t, fmt.Sprintf("Shift(%v, %v)", at, by), laid(l[1:2]), "b "+spot(want))
		told(t, fmt.Sprintf("Shift by %v", by), laid(l[:1])+"|"+laid(l[2:]), "a "+spot(sum(1, by))+"|c "+spot(sum(-1, by)))
	}
	shifts(far-1, 1, far)
	shifts(far, 1, 0)
	shifts(far+5i, 1, 0)
	shifts(5+far*1i, 1i, 0)
	shifts(5+far*1i, 1, 6+far*1i)
	shifts(far+far*1i, -1-1i, far-1+(far-1)*1i)
	shifts(-far, -1, 0)
	shifts(1-far, -1, -far)
	shifts(7-far*1i, -1i, 0)
	shifts(7-far*1i, 1i, 7-(far-1)*1i)
	shifts(far, far, 0)
	shifts(far, -far, 0)
	shifts(-far+far*1i, far-far*1i, 0)
	shifts(-far-3i, far, -3i)
	shifts(3-far*1i, far*1i, 3)
	shifts(0, far, far)
	shifts(0, -far-far*1i, -far-far*1i)
	shifts(far/2+1, far/2, 0)
	shifts(far/2, far/2, far)
}

// sum: a place and another, reckoned in ints; 0, if it may not be.
func sum(a, b complex128) complex128 {
	column, row := int(real(a))+int(real(b)), int(imag(a))+int(imag(b))
	if max(column, -column, row, -row) > far {
		return 0
	}
	return complex(float64(column), float64(row))
}

// A place that may not be counts as 0, as an item's and as what it is shifted by.
func TestShiftOfNoPlaces(t *testing.T) {
	for _, at := range noPlaces() {
		told(t, fmt.Sprint("Shift of ", at), laid(page.Shift([]api.Item{item("a", at), item("b", 1)}, 3-4i)), "a 3,-4|b 4,-4")
		told(t, fmt.Sprint("Shift by ", at), laid(page.Shift(items("a 1,2|b -3,-4"), at)), "a 1,2|b -3,-4")
		told(t, fmt.Sprint("Shift by ", at), laid(page.Shift([]api.Item{item("a", at)}, at)), "a 0,0")
		told(t, fmt.Sprint("Shift far of ", at), laid(page.Shift([]api.Item{item("a", at)}, far)), "a 1073741824,0")
	}
}

// P17.3: each place times i so often.
func TestTurn(t *testing.T) {
	const l = "a 1,0|bb 0,1| 3,4|c -3,4|d 5,-6|e -7,-8|f 0,0"
	turned := []string{
		l,
		"a 0,1|bb -1,0| -4,3|c -4,-3|d 6,5|e 8,-7|f 0,0",
		"a -1,0|bb 0,-1| -3,-4|c 3,-4|d -5,6|e 7,8|f 0,0",
		"a 0,-1|bb 1,0| 4,-3|c 4,3|d -6,-5|e -8,7|f 0,0",
	}
	for quarters := -20; quarters <= 20; quarters++ {
		told(t, fmt.Sprint("Turn by ", quarters), laid(page.Turn(items(l), quarters)), turned[((quarters%4)+4)%4])
	}
	for quarters, as := range map[int]int{math.MinInt: 0, math.MinInt + 1: 1, math.MinInt + 3: 3, math.MaxInt: 3, math.MaxInt - 1: 2, math.MaxInt - 3: 0, math.MinInt32: 0, math.MaxInt32: 3, 1000001: 1, -1000001: 3} {
		told(t, fmt.Sprint("Turn by ", quarters), laid(page.Turn(items(l), quarters)), turned[as])
	}
	for _, none := range [][]api.Item{nil, {}} {
		told(t, "Turn of none", laid(page.Turn(none, 1)), "")
	}
}

// A place that may not be counts as 0; the farthest ones turn as all others.
func TestTurnOfNoPlaces(t *testing.T) {
	for _, at := range noPlaces() {
		for _, quarters := range []int{-1, 0, 1, 2, 4} {
			told(t, fmt.Sprint("Turn of ", at), laid(page.Turn([]api.Item{item("a", at), item("b", 0)}, quarters)), "a 0,0|b 0,0")
		}
	}
	for _, at := range farPlaces {
		column, row := real(at), imag(at)
		for quarters, want := range []complex128{at, complex(-row, column), complex(-column, -row), complex(row, -column)} {
			told(t, fmt.Sprint("Turn of ", at), laid(page.Turn([]api.Item{item("a", at)}, quarters)), "a "+spot(want))
		}
	}
}

// P17.3: columns and rows between, together.
func TestDistance(t *testing.T) {
	for _, x := range []struct {
		a, b complex128
		want int
	}{
		{0, 0, 0}, {3 + 4i, 3 + 4i, 0}, {-3 - 4i, -3 - 4i, 0}, {0, 3 + 4i, 7}, {0, 1, 1}, {0, -1, 1}, {0, 1i, 1}, {0, -1i, 1},
		{5 + 5i, 8 + 9i, 7}, {5 + 5i, 2 + 9i, 7}, {5 + 5i, 8 + 1i, 7}, {5 + 5i, 2 + 1i, 7}, // on all four sides
		{-1 - 2i, 1 + 2i, 6}, {-1 + 2i, 1 - 2i, 6}, {100, 1, 99}, {100i, 1i, 99}, {100 + 100i, 1i, 199},
		{far, 0, far}, {far, -far, 2 * far}, {far + far*1i, -far - far*1i, 4 * far}, {far - far*1i, -far + far*1i, 4 * far}, {far, far - 1, 1}, {far, far*1i - far, 3 * far},
	} {
		told(t, fmt.Sprintf("Distance(%v, %v)", x.a, x.b), fmt.Sprint(page.Distance(x.a, x.b)), fmt.Sprint(x.want))
		told(t, fmt.Sprintf("Distance(%v, %v)", x.b, x.a), fmt.Sprint(page.Distance(x.b, x.a)), fmt.Sprint(x.want))
	}
	for _, at := range noPlaces() {
		told(t, fmt.Sprint("Distance of ", at), fmt.Sprint(page.Distance(at, 3-4i), page.Distance(3-4i, at), page.Distance(at, at)), "7 7 0")
	}
}

// somePlaces: on all sides of 0, near and far, and some that may not be.
func somePlaces() []complex128 {
	l := append([]complex128{0, 1, -1, 1i, -1i, 3 + 4i, -3 + 4i, 3 - 4i, -3 - 4i, 1000 + 2i, -7 + 999i, 0.5, complex(math.NaN(), 1)}, farPlaces...)
	return append(l, complex(math.Inf(1), 0), far+1)
}

// P17.6: Turn by 4 is all as it was (what may not be is 0, as it counted ahead of that); Turn keeps Distance; two turns are one by both.
func TestTurnKeeps(t *testing.T) {
	var l []api.Item
	for i, at := range somePlaces() {
		l = append(l, item(strings.Repeat("x", i%4), at))
	}
	was := page.Turn(l, 0)
	for _, n := range append([]int{-8, -4, 0, 4, 8, 400}, math.MinInt, math.MaxInt-3) {
		told(t, fmt.Sprint("Turn by ", n), laid(page.Turn(l, n)), laid(was))
	}
	told(t, "Turn by 4 quarters", laid(page.Turn(page.Turn(page.Turn(page.Turn(l, 1), 1), 1), 1)), laid(was))
	for n := -5; n <= 5; n++ {
		turned := page.Turn(l, n)
		told(t, "there and back", laid(page.Turn(turned, -n)), laid(was))
		for m := -5; m <= 5; m++ {
			told(t, "Turn and Turn", laid(page.Turn(turned, m)), laid(page.Turn(l, n+m)))
		}
		for i := range l {
			for j := range l {
				if got, want := page.Distance(turned[i].At, turned[j].At), page.Distance(l[i].At, l[j].At); got != want {
					t.Errorf("Distance of %v and %v turned by %d: %d, want %d", l[i].At, l[j].At, n, got, want)
				}
			}
		}
	}
}

// P17.6: Shift by the Bounds' least place with the other sign brings that to 0.
func TestShiftToNought(t *testing.T) {
	all := somePlaces()
	for i, a := range all {
		for j, b := range all {
			l := []api.Item{item("a", a), item("", b), item("c", all[(3*i+5*j)%len(all)])}
			least, most := page.Bounds(l)
			shifted := page.Shift(l, -least)
			got, end := page.Bounds(shifted)
			told(t, fmt.Sprint("the least place of ", laid(l)), spot(got), "0,0")
			if way := most - least; real(way) <= far && imag(way) <= far {
				told(t, fmt.Sprint("the greatest place of ", laid(l)), spot(end), spot(way))
				told(t, "and back", laid(page.Shift(shifted, least)), laid(page.Turn(l, 0)))
			}
		}
	}
}
