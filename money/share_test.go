package money_test

import (
	"math/big"
	"slices"
	"testing"

	"hopper/api"
	"hopper/money"
)

// 22.4: Share; of 22.5, what follows for shares.

// fair looks at what 22.5 says of shares, part by part.
func fair(t *testing.T, a int, weights []int) {
	t.Helper()
	shares, e := money.Share(a, weights)
	if e != api.OK || len(shares) != len(weights) {
		t.Fatalf("Share of %d, %d weights: %d shares, %d", a, len(weights), len(shares), e)
	}
	if total(shares).Cmp(bigOf(a)) != 0 {
		t.Errorf("Share of %d, %d weights: they come to %v", a, len(weights), total(shares))
	}
	all := total(weights)
	for i, s := range shares {
		// How much farther from 0 than its part the share is.
		part := new(big.Rat).SetFrac(product(a, weights[i]), all)
		away := new(big.Rat).SetInt(bigOf(s))
		away.Sub(away.Abs(away), new(big.Rat).Abs(part))
		one := big.NewRat(1, 1)
		switch {
		case s != 0 && (s < 0) != (a < 0):
			t.Errorf("Share of %d: the share %d is %d", a, i, s)
		case weights[i] == 0 && s != 0:
			t.Errorf("Share of %d: without a weight the share %d is %d", a, i, s)
		case away.Cmp(one) > 0, away.Cmp(new(big.Rat).Neg(one)) <= 0:
			t.Errorf("Share of %d: the share %d is %d, its part %v", a, i, s, part)
		case away.Cmp(one) == 0 && !part.IsInt():
			t.Errorf("Share of %d: the share %d is %d, and got more than a cent on %v", a, i, s, part)
		}
	}
}

func TestSharesWrittenOut(t *testing.T) {
	for _, x := range []struct {
		a             int
		weights, want []int
	}{
		// One weight.
		{0, []int{1}, []int{0}}, {7, []int{1}, []int{7}}, {7, []int{1000000}, []int{7}}, {great, []int{1}, []int{great}}, {great, []int{1000000}, []int{great}}, {great - 1, []int{999999}, []int{great - 1}},
		// Nothing to share.
		{0, []int{5, 0, 7}, []int{0, 0, 0}}, {0, []int{1, 1, 1}, []int{0, 0, 0}},
		// Nothing is left.
		{6, []int{1, 2, 3}, []int{1, 2, 3}}, {100, []int{1, 1, 2}, []int{25, 25, 50}}, {7, []int{0, 7}, []int{0, 7}},
		// Some is left: the first ones get it, whatever their weights are.
		{100, []int{1, 1, 1}, []int{34, 33, 33}}, {101, []int{1, 1, 1}, []int{34, 34, 33}}, {1, []int{1, 1}, []int{1, 0}}, {1, []int{1, 1000000}, []int{1, 0}}, {1, []int{1000000, 1}, []int{1, 0}},
		{7, []int{1, 3}, []int{2, 5}}, {7, []int{3, 1}, []int{6, 1}}, {2, []int{1, 1, 1}, []int{1, 1, 0}}, {3, []int{1, 1, 1, 1}, []int{1, 1, 1, 0}}, {10, []int{1, 5, 5}, []int{1, 5, 4}}, {10, []int{3, 3, 3}, []int{4, 3, 3}}, {11, []int{2, 4, 3}, []int{3, 5, 3}},
		// Those without a weight get none of it.
		{7, []int{0, 3, 0, 1}, []int{0, 6, 0, 1}}, {1, []int{0, 0, 1}, []int{0, 0, 1}}, {1, []int{0, 1, 1}, []int{0, 1, 0}}, {2, []int{0, 1, 0, 1, 1}, []int{0, 1, 0, 1, 0}}, {5, []int{0, 1, 0, 1, 1, 0}, []int{0, 2, 0, 2, 1, 0}}, {3, []int{0, 0, 5, 0, 5, 5, 5}, []int{0, 0, 1, 0, 1, 1, 0}}, {great, []int{0, 1, 0}, []int{0, great, 0}},
		// A part that is whole gets a cent, too, if it is the first one.
		{4, []int{4, 2, 2, 3, 5}, []int{2, 1, 0, 0, 1}},
		// The products are more than an int holds.
		{great, []int{1000000, 1000000}, []int{great / 2, great / 2}}, {great, []int{1000000, 1000000, 1000000}, []int{333333333333334, 333333333333333, 333333333333333}}, {great - 1, []int{1000000, 1000000}, []int{great / 2, great/2 - 1}},
		{great, []int{1000000, 1}, []int{999999000001000, 999999000}},
	} {
		shared(t, x.a, x.weights, x.want, api.OK)
		fair(t, x.a, x.weights)
		below := slices.Clone(x.want)
		for i := range below {
			below[i] = -below[i]
		}
		shared(t, -x.a, x.weights, below, api.OK)
		fair(t, -x.a, x.weights)
	}
}

// ones is so many of n and then so many of m.
func ones(n, many, m, more int) []int { return append(repeat(n, many), repeat(m, more)...) }

func TestShareOfAThousand(t *testing.T) {
	for _, w := range []int{1, 7, 1000000} {
		weights := repeat(w, 1000)
		shared(t, great, weights, repeat(great/1000, 1000), api.OK)
		shared(t, least, weights, repeat(least/1000, 1000), api.OK)
		shared(t, 0, weights, repeat(0, 1000), api.OK)
		shared(t, 1, weights, ones(1, 1, 0, 999), api.OK)
		shared(t, -1, weights, ones(-1, 1, 0, 999), api.OK)
		shared(t, 999, weights, ones(1, 999, 0, 1), api.OK)
		shared(t, 1999, weights, ones(2, 999, 1, 1), api.OK)
		shared(t, great-1, weights, ones(great/1000, 999, great/1000-1, 1), api.OK)
		shared(t, least+1, weights, ones(least/1000, 999, least/1000+1, 1), api.OK)
		shared(t, great-500, weights, ones(great/1000, 500, great/1000-1, 500), api.OK)
		for _, a := range amounts() {
			fair(t, a, weights)
			fair(t, a, weights[:999])
		}
	}
	last := append(repeat(0, 999), 1)
	shared(t, great, last, append(repeat(0, 999), great), api.OK)
	shared(t, -1, last, append(repeat(0, 999), -1), api.OK)
}

func TestShareOfTooFewOrManyWeights(t *testing.T) {
	for _, a := range []int{0, 1, -1, 100, great, least} {
		shared(t, a, nil, nil, api.ErrRange)
		shared(t, a, []int{}, nil, api.ErrRange)
		for _, n := range []int{1001, 1002, 2000, 1 << 20} {
			shared(t, a, repeat(1, n), nil, api.ErrRange)
			shared(t, a, repeat(0, n), nil, api.ErrRange)
			shared(t, a, repeat(-1, n), nil, api.ErrRange)
			shared(t, a, append([]int{1}, repeat(0, n-1)...), nil, api.ErrRange)
		}
	}
}

func TestShareOfWeightsThatMayNotBe(t *testing.T) {
	for _, bad := range outside() {
		for _, a := range []int{0, 1, -1, 100, great, least} {
			shared(t, a, []int{bad}, nil, api.ErrRange)
			// They would come to a weight, or to nothing.
			shared(t, a, []int{bad, -bad}, nil, api.ErrRange)
			shared(t, a, []int{bad, 1 - bad}, nil, api.ErrRange)
			for at := range 4 {
				shared(t, a, slices.Insert([]int{1, 2, 3}, at, bad), nil, api.ErrRange)
				shared(t, a, slices.Insert([]int{0, 0, 0}, at, bad), nil, api.ErrRange)
			}
			shared(t, a, append(repeat(1, 999), bad), nil, api.ErrRange)
		}
	}
}

func TestShareOfWeightsThatAreAllNothing(t *testing.T) {
	for _, n := range []int{1, 2, 3, 10, 999, 1000} {
		for _, a := range []int{0, 1, -1, 100, great, least} {
			shared(t, a, repeat(0, n), nil, api.ErrRange)
		}
	}
}

func TestShareOfNoAmount(t *testing.T) {
	for _, a := range noAmounts() {
		for _, weights := range [][]int{nil, {}, {0}, {0, 0}, {1}, {1, 2, 3}, {-1}, {1, 1000001}, repeat(1, 1000), repeat(1, 1001)} {
			shared(t, a, weights, nil, api.ErrMoney)
		}
	}
}

// All short lists of small weights, and the greatest ones.
func TestSharesAsTheModel(t *testing.T) {
	lists := [][]int{{}}
	for range 4 {
		var longer [][]int
		for _, l := range lists {
			for _, w := range []int{0, 1, 2, 3, 1000000} {
				longer = append(longer, append(slices.Clone(l), w))
			}
		}
		lists = longer
		for _, weights := range lists {
			for _, a := range []int{0, 1, 2, 3, 4, 5, 6, 7, 10, 11, 100, 1000001, great - 1, great} {
				for _, sign := range []int{1, -1} {
					want, wantE := modelShare(sign*a, weights)
					shared(t, sign*a, weights, want, wantE)
				}
			}
		}
	}
}
