package tpcc_test

import (
	"math"
	"testing"

	"hopper/api"
	"hopper/table"
)

// 23.2: state and low, which change nothing.

// looks is a call that is done, and changes nothing.
func looks(t *testing.T, d *table.Data, name string, list []int64, want ...[]int64) {
	t.Helper()
	before := all(d)
	for range 2 {
		tells(t, d, name, list, want...)
		if x := differ(all(d), before); x != "" {
			t.Errorf("%s %d: %s", name, list, x)
		}
	}
}

func TestStateWrittenOut(t *testing.T) {
	d := load(t, 2, 2, 2, 3)
	looks(t, d, "state", []int64{1, 1, 1}, []int64{0})
	callOf(d, "new", []int64{1, 1, 1, 2, 1, 3, 1, 2, 4})
	// One order, which is not brought; it is nobody else's.
	looks(t, d, "state", []int64{1, 1, 1}, []int64{0}, []int64{1, 0, 2}, []int64{2, 1, 3, 603}, []int64{1, 2, 4, 404})
	for _, list := range [][]int64{{1, 1, 2}, {1, 2, 1}, {2, 1, 1}, {2, 2, 2}} {
		looks(t, d, "state", list, []int64{0})
	}
	callOf(d, "bring", []int64{1, 10})
	looks(t, d, "state", []int64{1, 1, 1}, []int64{1007}, []int64{1, 10, 2}, []int64{2, 1, 3, 603}, []int64{1, 2, 4, 404})
	callOf(d, "pay", []int64{1, 1, 1, 2000})
	looks(t, d, "state", []int64{1, 1, 1}, []int64{-993}, []int64{1, 10, 2}, []int64{2, 1, 3, 603}, []int64{1, 2, 4, 404})
	// Another customer's order behind it.
	callOf(d, "new", []int64{1, 1, 2, 3, 1, 1})
	looks(t, d, "state", []int64{1, 1, 1}, []int64{-993}, []int64{1, 10, 2}, []int64{2, 1, 3, 603}, []int64{1, 2, 4, 404})
	looks(t, d, "state", []int64{1, 1, 2}, []int64{0}, []int64{2, 0, 1}, []int64{3, 1, 1, 301})
	// Several of its own: the last one.
	callOf(d, "new", []int64{1, 1, 1, 3, 2, 1})
	callOf(d, "new", []int64{1, 1, 1, 1, 2, 2})
	callOf(d, "new", []int64{1, 1, 2, 2, 2, 2})
	looks(t, d, "state", []int64{1, 1, 1}, []int64{-993}, []int64{4, 0, 1}, []int64{1, 2, 2, 202})
	callOf(d, "bring", []int64{1, 3})
	callOf(d, "bring", []int64{1, 3})
	looks(t, d, "state", []int64{1, 1, 1}, []int64{-692}, []int64{4, 0, 1}, []int64{1, 2, 2, 202})
	callOf(d, "bring", []int64{1, 9})
	looks(t, d, "state", []int64{1, 1, 1}, []int64{-490}, []int64{4, 9, 1}, []int64{1, 2, 2, 202})
	sounds(t, d, api.OK)
}

func TestStateOfFifteenLines(t *testing.T) {
	d := load(t, 1, 1, 1, 15)
	list := []int64{1, 1, 1}
	want := [][]int64{{0}, {1, 0, 15}}
	for n := int64(15); n >= 1; n-- {
		list = append(list, n, 1, n%10+1)
		want = append(want, []int64{n, 1, n%10 + 1, (100*n + 1) * (n%10 + 1)})
	}
	callOf(d, "new", list)
	looks(t, d, "state", []int64{1, 1, 1}, want...)
}

// Only the customer is read.
func TestStateMissing(t *testing.T) {
	d := load(t, 2, 2, 2, 2)
	for _, list := range [][]int64{{3, 1, 1}, {1, 3, 1}, {1, 1, 3}, {0, 1, 1}, {1, 0, 1}, {1, 1, 0}} {
		refuses(t, d, "state", list, api.ErrNone)
	}
	callOf(d, "new", []int64{1, 1, 1, 1, 1, 1})
	remove(t, d, "house", 1)
	remove(t, d, "district", 1, 1)
	remove(t, d, "item", 1)
	remove(t, d, "stock", 1, 1)
	looks(t, d, "state", []int64{1, 1, 1}, []int64{0}, []int64{1, 0, 1}, []int64{1, 1, 1, 101})
	remove(t, d, "customer", 1, 1, 1)
	refuses(t, d, "state", []int64{1, 1, 1}, api.ErrNone)
}

// Numbers by which keys begin at both ends, and books that others have changed.
func TestStateOfOthers(t *testing.T) {
	ends := []int64{math.MinInt64, -1, 0, 1, math.MaxInt64 - 1, math.MaxInt64}
	d := load(t, 1, 1, 1, 1)
	for _, w := range ends {
		for _, i := range ends {
			for _, c := range ends[:2] {
				put(t, d, "customer", w, i, c, 0, w&7, 0, 0)
			}
			for _, o := range ends {
				put(t, d, "orders", w, i, o, ends[0], 3, i)
				put(t, d, "line", w, i, o, math.MinInt64, 1, 2, 3, w)
				put(t, d, "line", w, i, o, math.MaxInt64, 4, 5, 6, i)
			}
		}
	}
	for _, w := range ends {
		for _, i := range ends {
			// How many lines there are is what the order says.
			looks(t, d, "state", []int64{w, i, ends[0]}, []int64{w & 7}, []int64{math.MaxInt64, i, 3}, []int64{1, 2, 3, w}, []int64{4, 5, 6, i})
			looks(t, d, "state", []int64{w, i, ends[1]}, []int64{w & 7})
		}
	}
	putRow(t, d, "customer", append(whole(1, 1, 0), null, null, null, null))
	looks(t, d, "state", []int64{1, 1, 0}, []int64{0})
	putRow(t, d, "orders", append(whole(1, 1, 5), null, null, null))
	looks(t, d, "state", []int64{1, 1, 0}, []int64{0}, []int64{5, 0, 0})
	putRow(t, d, "line", append(whole(1, 1, 5, 5), null, null, null, null))
	looks(t, d, "state", []int64{1, 1, 0}, []int64{0}, []int64{5, 0, 0}, []int64{0, 0, 0, 0})
}

func TestLowWrittenOut(t *testing.T) {
	d := load(t, 2, 2, 1, 5)
	extremes := []int64{math.MinInt64, 0, 50, 51, math.MaxInt64}
	for _, n := range extremes {
		looks(t, d, "low", []int64{1, 1, n}, []int64{0})
	}
	// Of the same items several lines, and of one a line from the other house.
	callOf(d, "new", []int64{1, 1, 1, 1, 1, 3, 1, 1, 1, 2, 1, 1})
	callOf(d, "new", []int64{1, 1, 1, 2, 1, 1, 3, 2, 7})
	is(t, d, "stock", 2, 1, 1, 46, 4, 2)
	for n, want := range map[int64]int64{math.MinInt64: 0, 0: 0, 46: 0, 47: 1, 48: 1, 49: 2, 50: 2, 51: 3, math.MaxInt64: 3} {
		looks(t, d, "low", []int64{1, 1, n}, []int64{want})
	}
	for _, n := range extremes {
		looks(t, d, "low", []int64{1, 2, n}, []int64{0})
		looks(t, d, "low", []int64{2, 1, n}, []int64{0})
	}
	// A stock of this house counts, whosever lines are from it, and brought orders count, too.
	callOf(d, "new", []int64{2, 1, 1, 3, 1, 10})
	callOf(d, "bring", []int64{1, 1})
	looks(t, d, "low", []int64{1, 1, 41}, []int64{1})
	looks(t, d, "low", []int64{1, 1, 47}, []int64{2})
	looks(t, d, "low", []int64{2, 1, 44}, []int64{1})
	looks(t, d, "low", []int64{2, 1, 43}, []int64{0})
}

// The last 20 orders count.
func TestLowOfManyOrders(t *testing.T) {
	d := load(t, 1, 2, 1, 40)
	for n := int64(1); n <= 40; n++ {
		callOf(d, "new", []int64{1, 1, 1, n, 1, 1})
		looks(t, d, "low", []int64{1, 1, 50}, []int64{min(n, 20)})
		looks(t, d, "low", []int64{1, 1, 49}, []int64{0})
		looks(t, d, "low", []int64{1, 2, 50}, []int64{0})
		if n == 22 {
			// 3 to 22 of these are there.
			for item, want := range map[int64]int64{1: 0, 2: 0, 3: 1, 4: 1, 22: 1, 23: 0} {
				setTo(t, d, "stock", 2, 10, 1, item)
				looks(t, d, "low", []int64{1, 1, 11}, []int64{want})
				setTo(t, d, "stock", 2, 49, 1, item)
				if item > n {
					setTo(t, d, "stock", 2, 50, 1, item)
				}
			}
		}
	}
}

func TestLowMissing(t *testing.T) {
	d := load(t, 2, 2, 1, 1)
	for _, list := range [][]int64{{3, 1, 1}, {1, 3, 1}, {0, 1, 1}, {1, 0, 1}} {
		refuses(t, d, "low", list, api.ErrNone)
	}
	callOf(d, "new", []int64{1, 1, 1, 1, 2, 1})
	remove(t, d, "house", 1)
	remove(t, d, "customer", 1, 1, 1)
	remove(t, d, "item", 1)
	remove(t, d, "stock", 2, 1)
	looks(t, d, "low", []int64{1, 1, 51}, []int64{1})
	// A stock that is needed.
	remove(t, d, "stock", 1, 1)
	refuses(t, d, "low", []int64{1, 1, 51}, api.ErrNone)
	looks(t, d, "low", []int64{1, 2, 51}, []int64{0})
	remove(t, d, "district", 1, 1)
	refuses(t, d, "low", []int64{1, 1, 51}, api.ErrNone)
}

// From which order on, in books that others have changed; a line counts if its order is there.
func TestLowOfOthers(t *testing.T) {
	numbers := []int64{math.MinInt64, -1, 0, 1, 2, 3, 29, 30, 31, math.MaxInt64 - 20, math.MaxInt64 - 19, math.MaxInt64}
	d := load(t, 1, 1, 1, 1)
	for at, o := range numbers {
		put(t, d, "orders", 1, 1, o, 1, 1, 0)
		put(t, d, "line", 1, 1, o, 1, int64(at+10), 1, 1, 1)
		put(t, d, "stock", 1, int64(at+10), 5, 0, 0)
	}
	put(t, d, "line", 1, 1, 25, 1, 99, 1, 1, 1)
	for next, from := range map[int64]int64{
		0: 1, 1: 1, 2: 1, 20: 1, 21: 1, 22: 2, 23: 3, 24: 4, 49: 29, 50: 30, 51: 31, 52: 32, -5: 1, least: 1,
		math.MaxInt64: math.MaxInt64 - 20, math.MaxInt64 - 1: math.MaxInt64 - 21, math.MinInt64 + 20: 1, math.MinInt64 + 19: math.MaxInt64, math.MinInt64: math.MaxInt64 - 19,
	} {
		setTo(t, d, "district", 4, next, 1, 1)
		want := int64(0)
		for _, o := range numbers {
			if o >= from {
				want++
			}
		}
		looks(t, d, "low", []int64{1, 1, 6}, []int64{want})
		looks(t, d, "low", []int64{1, 1, 5}, []int64{0})
	}
	set(t, d, "district", 4, null, 1, 1)
	looks(t, d, "low", []int64{1, 1, 6}, []int64{int64(len(numbers) - 3)})
	// Nulls count as 0: what is left, and the item.
	set(t, d, "stock", 2, null, 1, 13)
	looks(t, d, "low", []int64{1, 1, 1}, []int64{1})
	looks(t, d, "low", []int64{1, 1, 0}, []int64{0})
	set(t, d, "line", 4, null, 1, 1, 1, 1)
	refuses(t, d, "low", []int64{1, 1, 1}, api.ErrNone)
	put(t, d, "stock", 1, 0, -7, 0, 0)
	looks(t, d, "low", []int64{1, 1, 0}, []int64{1})
}
