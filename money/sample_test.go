package money_test

import (
	"math"
	"slices"
	"testing"

	"hopper/api"
	"hopper/money"
)

const (
	great = 1000000000000000  // the greatest amount
	least = -1000000000000000 // the least one
)

// The checks: each call tells what is wanted, and tells it again.

func texted(t *testing.T, a int, want string, wantE api.Errno) {
	t.Helper()
	for range 2 {
		if s, e := money.Text(a); s != want || e != wantE {
			t.Errorf("Text of %d: %q %d, not %q %d", a, s, e, want, wantE)
		}
	}
}

func parsed(t *testing.T, s string, want int, wantE api.Errno) {
	t.Helper()
	for range 2 {
		if a, e := money.Parse(s); a != want || e != wantE {
			t.Errorf("Parse of %.40q (%d bytes): %d %d, not %d %d", s, len(s), a, e, want, wantE)
		}
	}
}

func summed(t *testing.T, l []int, want int, wantE api.Errno) {
	t.Helper()
	for range 2 {
		if a, e := money.Sum(l); a != want || e != wantE {
			t.Errorf("Sum of %d, %d ..: %d %d, not %d %d", len(l), l[:min(len(l), 6)], a, e, want, wantE)
		}
	}
}

func parted(t *testing.T, a, rate, want int, wantE api.Errno) {
	t.Helper()
	for range 2 {
		if p, e := money.Part(a, rate); p != want || e != wantE {
			t.Errorf("Part of %d, %d: %d %d, not %d %d", a, rate, p, e, want, wantE)
		}
	}
}

func priced(t *testing.T, a, many int, rates []int, want int, wantE api.Errno) {
	t.Helper()
	for range 2 {
		if p, e := money.Price(a, many, rates); p != want || e != wantE {
			t.Errorf("Price of %d, %d, %d rates %d ..: %d %d, not %d %d", a, many, len(rates), rates[:min(len(rates), 6)], p, e, want, wantE)
		}
	}
}

func shared(t *testing.T, a int, weights, want []int, wantE api.Errno) {
	t.Helper()
	for range 2 {
		if l, e := money.Share(a, weights); !slices.Equal(l, want) || e != wantE {
			t.Errorf("Share of %d, %d weights %d ..: %d, %d .., %d, not %d, %d .., %d", a, len(weights), weights[:min(len(weights), 6)], len(l), l[:min(len(l), 6)], e, len(want), want[:min(len(want), 6)], wantE)
		}
	}
}

// noAmounts are ints on both sides of all amounts, up to the greatest and the least int.
func noAmounts() []int {
	return []int{great + 1, great + 2, great + 100, 2 * great, 10 * great, 1 << 62, math.MaxInt - 1, math.MaxInt,
		least - 1, least - 2, least - 100, 2 * least, 10 * least, -1 << 62, math.MinInt + 1, math.MinInt}
}

// amounts are the edges of all amounts, of the cents in a text, and some between.
func amounts() []int {
	out := []int{0}
	for _, n := range []int{1, 2, 5, 9, 10, 11, 50, 99, 100, 101, 109, 110, 199, 200, 999, 1000, 1001, 9999, 10000, 10001, 123456, 1 << 31, 1<<32 + 5, 10000000000, 99999999999999, 100000000000000, 123456789012345, great - 101, great - 100, great - 99, great - 1, great} {
		out = append(out, n, -n)
	}
	return out
}

// outside are ints below 0 and above what a rate, a weight or how many may be.
func outside() []int {
	return []int{-1, -2, -10000, -1000000, -1 << 32, math.MinInt + 1, math.MinInt, 1000001, 1000002, 10000000, 1 << 32, 1<<32 + 1, 1 << 62, math.MaxInt - 1, math.MaxInt}
}

// within are ints that a rate, a weight or how many may be.
func within() []int {
	return []int{0, 1, 2, 3, 4999, 5000, 5001, 9999, 10000, 10001, 15000, 20000, 333333, 999999, 1000000}
}

func repeat(n, times int) []int { return slices.Repeat([]int{n}, times) }

// The chapter's examples.
func TestExamples(t *testing.T) {
	texted(t, -5, "-0.05", api.OK)
	texted(t, 123456, "1234.56", api.OK)
	parsed(t, "-0.05", -5, api.OK)
	parsed(t, "1234.56", 123456, api.OK)
	parted(t, 5, 5000, 3, api.OK)
	parted(t, -5, 5000, -3, api.OK)
	priced(t, 250, 4, nil, 1000, api.OK)
	priced(t, 250, 4, []int{1000}, 1100, api.OK)
	priced(t, 250, 4, []int{1000, 500}, 1155, api.OK)
	shared(t, 100, []int{1, 1, 1}, []int{34, 33, 33}, api.OK)
	shared(t, -100, []int{1, 1, 1}, []int{-34, -33, -33}, api.OK)
}
