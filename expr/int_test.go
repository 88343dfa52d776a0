package expr_test

import (
	"fmt"
	"math/rand"
	"strconv"
	"strings"
	"testing"

	"tinsel/expr"
)

// P18.1: Int of integers' texts.
func TestInt(t *testing.T) {
	for s, want := range map[string]int{
		"0": 0, "-0": 0, "000": 0, "-000": 0, "7": 7, "-7": -7, "007": 7, "-007": -7, "10": 10, "-10": -10, "0100": 100,
		most: 999999999999999999, "-" + most: -999999999999999999, "00" + most: 999999999999999999, "-00" + most: -999999999999999999,
		"999999999999999998": 999999999999999998, "100000000000000000": 100000000000000000, "-899999999999999999": -899999999999999999,
		strings.Repeat("0", 5000): 0, "-" + strings.Repeat("0", 5000) + "12": -12,
	} {
		got, ok := expr.Int(s)
		told(t, s, fmt.Sprint(got, ok), fmt.Sprint(want, true))
	}
}

// P18.1: Int of what is none, and of those that are too great.
func TestNoInt(t *testing.T) {
	for _, s := range append(noIntegers(), tooGreat()...) {
		got, ok := expr.Int(s)
		told(t, s, fmt.Sprint(got, ok), "0 false")
	}
}

// P18.1: one byte of any kind, behind, ahead of and between digits.
func TestIntOfAnyByte(t *testing.T) {
	for c := range 256 {
		digit := c >= '0' && c <= '9'
		for _, around := range [][2]string{{"", ""}, {"1", ""}, {"", "1"}, {"-", ""}, {"-", "2"}, {"1", "2"}, {"-1", "2"}} {
			s := around[0] + string([]byte{byte(c)}) + around[1]
			_, ok := expr.Int(s)
			if want := digit || c == '-' && around == [2]string{"", "1"}; ok != want {
				t.Errorf("%q: %v", s, ok)
			}
		}
	}
}

// P18.1, R7: numbers of every length are told as they are written.
func TestIntOfNumbers(t *testing.T) {
	r := rand.New(rand.NewSource(181))
	for range 20000 {
		n := r.Int63n(1000000000000000000) >> r.Intn(60)
		if r.Intn(2) == 0 {
			n = -n
		}
		got, ok := expr.Int(strconv.FormatInt(n, 10))
		told(t, "Int", fmt.Sprint(got, ok), fmt.Sprint(n, true))
		told(t, "Eval", eval(strconv.FormatInt(n, 10), "+", "0"), fmt.Sprint(n))
	}
}
