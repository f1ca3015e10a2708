package money_test

import (
	"slices"
	"testing"

	"hopper/api"
)

// 22.3: Price.

func TestPricesWrittenOut(t *testing.T) {
	for _, x := range []struct {
		a, many int
		rates   []int
		price   int
	}{
		// No rate.
		{250, 0, nil, 0}, {250, 1, nil, 250}, {250, 4, []int{}, 1000}, {250, 1000000, nil, 250000000}, {0, 0, nil, 0}, {0, 1000000, nil, 0}, {great, 0, nil, 0}, {great, 1, nil, great},
		// One rate.
		{250, 4, []int{0}, 1000}, {250, 4, []int{10000}, 2000}, {250, 4, []int{1}, 1000}, {250, 4, []int{5}, 1001}, {250, 4, []int{4}, 1000}, {250, 4, []int{1000000}, 101000}, {250, 0, []int{1000000}, 0}, {7, 1, []int{2100}, 8},
		// Each one is of all that came ahead of it, and is rounded by itself.
		{250, 4, []int{1000, 500}, 1155}, {250, 4, []int{500, 1000}, 1155}, {1, 1, []int{5000, 5000}, 3}, {1, 1, []int{5000, 4000}, 3}, {1, 1, []int{4000, 5000}, 2}, {1, 1, []int{4000, 4000, 4000}, 1},
		{3, 1, []int{5000, 5000, 5000}, 12}, {100, 1, []int{10000, 10000, 10000}, 800}, {100, 1, []int{0, 0, 1000, 0}, 110}, {1, 1, []int{1000000, 1000000}, 10201},
		// The product comes first: 3 times 1 at a half are 5, not 6.
		{1, 3, []int{5000}, 5}, {33, 3, []int{150}, 100},
		// At the greatest amount.
		{great, 1, []int{0, 0}, great}, {great / 2, 2, nil, great}, {great / 1000000, 1000000, nil, great}, {great/1000000 - 1, 1000000, nil, great - 1000000}, {great / 2, 1, []int{10000}, great}, {great / 101, 1, []int{1000000}, great / 101 * 101},
		{great / 4, 1, []int{10000, 10000}, great}, {333333333333333, 3, nil, great - 1},
	} {
		priced(t, x.a, x.many, x.rates, x.price, api.OK)
		priced(t, -x.a, x.many, x.rates, -x.price, api.OK)
	}
}

func TestPricesThatAreNoAmount(t *testing.T) {
	for _, x := range []struct {
		a, many int
		rates   []int
	}{
		// The product is none, also where that of ints would come round and be one.
		{great, 2, nil}, {great, 1000000, nil}, {great/2 + 1, 2, nil}, {great/1000000 + 1, 1000000, nil}, {333333333333334, 3, nil}, {great, 18447, nil}, {great, 18446, nil}, {great, 36894, nil}, {great, 18447, []int{0}}, {18446744073710, 1000000, nil}, {great, 2, []int{0, 0}},
		// A Part is none.
		{great, 1, []int{10001}}, {great, 1, []int{1000000}}, {great / 10, 10, []int{1000000}}, {great / 10, 1, []int{1000000}}, {100, 1, repeat(1000000, 7)},
		// A sum is none.
		{great, 1, []int{1}}, {great, 1, []int{10000}}, {great/2 + 1, 1, []int{10000}}, {great - 1, 1, []int{1}}, {great, 1, []int{0, 1, 0}}, {great, 1, []int{1, 0}}, {great / 2, 1, []int{10000, 1}}, {great / 4, 2, []int{10000, 10000}}, {100, 1, repeat(10000, 44)}, {100, 1, repeat(10000, 500)},
	} {
		priced(t, x.a, x.many, x.rates, 0, api.ErrRange)
		priced(t, -x.a, x.many, x.rates, 0, api.ErrRange)
	}
}

func TestPriceOfManyThatMayNotBe(t *testing.T) {
	for _, many := range outside() {
		for _, a := range []int{0, 1, -1, 250, great, least} {
			for _, rates := range [][]int{nil, {0}, {1000, 500}, {-1}, {1000001}} {
				priced(t, a, many, rates, 0, api.ErrRange)
			}
		}
	}
}

func TestPriceOfARateThatMayNotBe(t *testing.T) {
	for _, bad := range outside() {
		for at := range 5 {
			for _, a := range []int{0, 1, -1, 250, great, least} {
				for _, many := range []int{0, 1, 2, 1000000} {
					priced(t, a, many, slices.Insert([]int{0, 1000, 0, 500}, at, bad), 0, api.ErrRange)
					priced(t, a, many, slices.Insert([]int{0, 0, 0, 0}, at, bad), 0, api.ErrRange)
				}
			}
		}
		priced(t, 0, 0, []int{bad}, 0, api.ErrRange)
		priced(t, 0, 0, append(repeat(0, 5000), bad), 0, api.ErrRange)
	}
}

func TestPriceOfNoAmount(t *testing.T) {
	for _, a := range noAmounts() {
		for _, many := range append([]int{0, 1, 1000000}, outside()...) {
			for _, rates := range [][]int{nil, {0}, {1000, 500}, {-1}, {0, 1000001}} {
				priced(t, a, many, rates, 0, api.ErrMoney)
			}
		}
	}
}

// There may be any number of rates.
func TestPriceOfManyRates(t *testing.T) {
	for _, n := range []int{999, 1000, 1001, api.MaxItems + 1, 1 << 20} {
		priced(t, 4999, 1, repeat(1, n), 4999, api.OK)
		priced(t, great, 1, repeat(0, n), great, api.OK)
		priced(t, least, 1, append(repeat(0, n), 1), 0, api.ErrRange)
		priced(t, 0, 1000000, repeat(1000000, n), 0, api.OK)
	}
	// From 5000 on there is a cent each.
	priced(t, 5000, 1, repeat(1, 2500), 7500, api.OK)
	priced(t, -5000, 1, repeat(1, 2500), -7500, api.OK)
}

func TestPricesAsTheModel(t *testing.T) {
	rates := []int{0, 1, 4999, 5000, 5001, 10000, 12345}
	for a := -8; a <= 8; a++ {
		for many := range 8 {
			for _, p := range rates {
				for _, q := range rates {
					want, wantE := modelPrice(a, many, []int{p, q})
					priced(t, a, many, []int{p, q}, want, wantE)
				}
			}
		}
	}
	for _, a := range amounts() {
		for _, many := range within() {
			for _, rate := range within() {
				want, wantE := modelPrice(a, many, []int{rate})
				priced(t, a, many, []int{rate}, want, wantE)
			}
		}
	}
}
