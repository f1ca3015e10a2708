package money_test

import (
	"math"
	"slices"
	"testing"

	"hopper/api"
)

// 22.2: Sum and Part.

func TestSumsWrittenOut(t *testing.T) {
	for _, x := range []struct {
		l []int
		a int
	}{
		{nil, 0}, {[]int{}, 0}, {[]int{0}, 0}, {[]int{7}, 7}, {[]int{-7}, -7}, {[]int{1, -5, 10}, 6}, {[]int{1, 2, 3, 4, 5}, 15}, {[]int{5, -5}, 0}, {[]int{99, 1}, 100},
		{[]int{great}, great}, {[]int{least}, least}, {[]int{great, 0, 0}, great}, {[]int{great, least}, 0}, {[]int{least, great, 3}, 3}, {[]int{great - 1, 1}, great}, {[]int{least + 1, -1}, least},
		{[]int{great / 2, great / 2}, great}, {[]int{great - 5, 3}, great - 2}, {[]int{great, -1}, great - 1}, {[]int{least, 1}, least + 1},
		// None on the way, and one in the end.
		{[]int{great, 1, -1}, great}, {[]int{least, -1, 1}, least}, {[]int{great, great, least}, great}, {[]int{least, least, great}, least}, {[]int{great, great, least, least, 5}, 5},
		{[]int{great, great - 1, least + 1}, great}, {[]int{great - 1, great - 1, least}, great - 2}, {[]int{great, 5, -6}, great - 1},
	} {
		summed(t, x.l, x.a, api.OK)
	}
}

func TestSumsThatAreNoAmount(t *testing.T) {
	for _, l := range [][]int{
		{great, 1}, {1, great}, {least, -1}, {-1, least}, {great, great}, {least, least}, {great, 1, 0}, {great - 1, 2}, {least + 1, -2}, {great / 2, great/2 + 1}, {great, great, least, 1},
		{great, great, great, least}, {least, least, great, -1}, {great, great, -1}, {least, least, 1}, {great, great, -great + 1}, {great, great, great},
	} {
		summed(t, l, 0, api.ErrRange)
	}
}

// Sums that no int holds: one that is taken of ints alone would come round.
func TestSumsThatNoIntHolds(t *testing.T) {
	const round = 18446                                   // so many of the greatest amounts
	const more = 744073709551616                          // and this come to 2^64
	const half, rest = 9223, math.MaxInt - 9223*great + 1 // and these to 2^63
	for _, n := range []int{half, half + 1, round / 2, round - 1, round, round + 1, 2 * round, 100000} {
		for _, tail := range []int{0, 1, -1, more, more - 1, more + 1, rest, rest - 1, rest + 1, great, least, great - 1, least + 1} {
			up, down := repeat(great, n), repeat(least, n)
			summed(t, append(slices.Clone(up), tail), 0, api.ErrRange)
			summed(t, append(slices.Clone(down), tail), 0, api.ErrRange)
			summed(t, append(slices.Clone(down), -tail), 0, api.ErrRange)
			// There and back.
			summed(t, slices.Concat(up, []int{tail}, down), tail, api.OK)
			summed(t, slices.Concat(down, []int{tail}, up), tail, api.OK)
			summed(t, slices.Concat(up, []int{1}, down, []int{tail, -1}), tail, api.OK)
		}
		summed(t, slices.Concat(repeat(great, n), repeat(least+1, n)), n, api.OK)
		summed(t, slices.Concat(repeat(great, n), repeat(least, n-2)), 0, api.ErrRange)
		summed(t, slices.Concat(repeat(least, n), repeat(great, n-1)), least, api.OK)
		summed(t, slices.Concat(repeat(least, n), []int{-1}, repeat(great, n-1)), 0, api.ErrRange)
	}
}

func TestSumOfNoAmount(t *testing.T) {
	for _, bad := range noAmounts() {
		summed(t, []int{bad}, 0, api.ErrMoney)
		summed(t, []int{bad, bad}, 0, api.ErrMoney)
		// They would come to an amount.
		summed(t, []int{bad, -bad}, 0, api.ErrMoney)
		summed(t, []int{bad, 1 - bad}, 0, api.ErrMoney)
		if bad > 0 {
			summed(t, []int{bad, least}, 0, api.ErrMoney)
		}
		for at := range 4 {
			summed(t, slices.Insert([]int{1, 2, 3}, at, bad), 0, api.ErrMoney)
			// Behind a sum that is none, and ahead of it.
			summed(t, slices.Insert([]int{great, great, great}, at, bad), 0, api.ErrMoney)
			summed(t, slices.Insert([]int{least, least, least}, at, bad), 0, api.ErrMoney)
		}
		summed(t, append(repeat(great, 20000), bad), 0, api.ErrMoney)
	}
	summed(t, []int{math.MaxInt, 1}, 0, api.ErrMoney)
	summed(t, []int{math.MaxInt, math.MaxInt, 2}, 0, api.ErrMoney)
	summed(t, []int{math.MinInt, math.MinInt}, 0, api.ErrMoney)
	summed(t, []int{math.MinInt, -1}, 0, api.ErrMoney)
}

func TestPartsWrittenOut(t *testing.T) {
	for _, x := range [][3]int{
		{0, 0, 0}, {0, 1, 0}, {0, 10000, 0}, {0, 1000000, 0}, {5, 0, 0}, {-5, 0, 0}, {great, 0, 0}, {least, 0, 0},
		{1, 10000, 1}, {1, 20000, 2}, {1, 1000000, 100}, {-1, 1000000, -100}, {7, 999999, 700}, {123, 1000, 12}, {125, 1000, 13}, {-125, 1000, -13}, {124, 1000, 12}, {126, 1000, 13},
		// Just below, at and just above a half, on both sides of 0.
		{1, 4999, 0}, {1, 5000, 1}, {1, 5001, 1}, {3, 4999, 1}, {3, 5000, 2}, {3, 5001, 2}, {5, 4999, 2}, {5, 5000, 3}, {5, 5001, 3}, {1, 14999, 1}, {1, 15000, 2}, {1, 15001, 2},
		{4999, 1, 0}, {5000, 1, 1}, {5001, 1, 1}, {14999, 1, 1}, {15000, 1, 2}, {15001, 1, 2}, {24999, 1, 2}, {25000, 1, 3},
		{1, 9999, 1}, {1, 10001, 1}, {2, 10001, 2}, {9999, 9999, 9998}, {4, 5000, 2}, {6, 5000, 3},
		// The product is more than an int holds.
		{great, 1, 100000000000}, {great, 9999, 999900000000000}, {great, 10000, great}, {great - 1, 10000, great - 1}, {great / 100, 1000000, great}, {great/100 - 1, 1000000, great - 100},
		{great - 1, 5000, great / 2}, {great - 3, 5000, great/2 - 1}, {great / 10, 100000, great}, {great / 10, 99999, 999990000000000},
		// Up to the greatest amount by being rounded, and down to it.
		{999900009999000, 10001, great}, {909090909090909, 11000, great}, {999800039992002, 10002, great}, {666666666666666, 15000, great - 1},
	} {
		parted(t, x[0], x[1], x[2], api.OK)
		parted(t, -x[0], x[1], -x[2], api.OK)
	}
}

func TestPartsThatAreNoAmount(t *testing.T) {
	for _, x := range [][2]int{{great, 10001}, {great, 20000}, {great, 1000000}, {great - 1, 10001}, {great/100 + 1, 1000000}, {great/10 + 1, 100000}, {999900009999001, 10001}, {666666666666667, 15000}, {909090909090910, 11000}, {great, 184468}, {great, 92234}} {
		parted(t, x[0], x[1], 0, api.ErrRange)
		parted(t, -x[0], x[1], 0, api.ErrRange)
	}
}

// At each rate the amounts whose Parts are about the greatest amount: it is asked of the rounded one.
func TestPartsAtTheGreatestAmount(t *testing.T) {
	var down, refused, up int
	for rate := 10001; rate <= 1000000; rate += 1 + rate/500 {
		at := modelHighest(rate)
		for a := at - 2; a <= min(at+3, great); a++ {
			want, wantE := modelPart(a, rate)
			parted(t, a, rate, want, wantE)
			parted(t, -a, rate, -want, wantE)
			switch {
			case wantE != api.OK:
				refused++
			case want == great && a <= at:
				up++
			case want == great:
				down++
			}
		}
	}
	if down < 20 || up < 20 || refused < 20 {
		t.Error(down, up, refused)
	}
}

func TestPartOfWrongInputs(t *testing.T) {
	for _, rate := range outside() {
		for _, a := range amounts() {
			parted(t, a, rate, 0, api.ErrRange)
		}
	}
	for _, a := range noAmounts() {
		for _, rate := range append(within(), outside()...) {
			parted(t, a, rate, 0, api.ErrMoney)
		}
	}
}

// Of small amounts at many rates, and of a few at all.
func TestPartsAsTheModel(t *testing.T) {
	holds := func(a, rate int) {
		want, wantE := modelPart(a, rate)
		parted(t, a, rate, want, wantE)
	}
	for a := -60; a <= 60; a++ {
		for rate := 0; rate <= 30000; rate += 17 {
			holds(a, rate)
		}
	}
	for rate := 0; rate <= 1000000; rate += 97 {
		for _, a := range []int{1, -1, 7, 49999, -12345} {
			holds(a, rate)
		}
	}
	for _, a := range amounts() {
		for _, rate := range within() {
			holds(a, rate)
		}
	}
}

// 22.5: of a rate 10000 the Part is the amount.
func TestPartOfTheWhole(t *testing.T) {
	for _, a := range amounts() {
		parted(t, a, 10000, a, api.OK)
	}
	for n := range 20000 {
		for _, a := range []int{n, -n, great - n, least + n, n * 50000000001} {
			parted(t, a, 10000, a, api.OK)
		}
	}
}
