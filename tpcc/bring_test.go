package tpcc_test

import (
	"math"
	"testing"

	"hopper/api"
	"hopper/table"
)

// 23.2: bring.

func TestBringWrittenOut(t *testing.T) {
	d := load(t, 2, 3, 2, 3)
	before := all(d)
	// Nothing is fresh: nothing is told, and it is done.
	tells(t, d, "bring", []int64{1, 5})
	if x := differ(all(d), before); x != "" {
		t.Error(x)
	}
	callOf(d, "new", []int64{1, 3, 1, 1, 1, 2, 3, 2, 1})
	callOf(d, "new", []int64{1, 1, 2, 2, 1, 1})
	callOf(d, "new", []int64{1, 1, 1, 1, 1, 1})
	callOf(d, "new", []int64{2, 2, 2, 1, 1, 1})
	// In some districts, by their numbers; another house's orders stay.
	tells(t, d, "bring", []int64{1, 5}, []int64{1, 1}, []int64{3, 1})
	has(t, d, "fresh", []int64{1, 1, 2}, []int64{2, 2, 1})
	has(t, d, "orders", []int64{1, 1, 1, 2, 1, 5}, []int64{1, 1, 2, 1, 1, 0}, []int64{1, 3, 1, 1, 2, 5}, []int64{2, 2, 1, 2, 1, 0})
	is(t, d, "customer", 3, 1, 1, 2, 200, 201, 0, 0)
	is(t, d, "customer", 3, 1, 1, 1, 100, 0, 0, 0)
	is(t, d, "customer", 3, 1, 3, 1, 100, 503, 0, 0)
	is(t, d, "customer", 3, 2, 2, 2, 200, 0, 0, 0)
	sounds(t, d, api.OK)
	callOf(d, "new", []int64{1, 1, 1, 1, 1, 3})
	callOf(d, "new", []int64{1, 2, 1, 1, 1, 1})
	callOf(d, "new", []int64{1, 3, 1, 1, 1, 4})
	// In all districts: the oldest first.
	tells(t, d, "bring", []int64{1, 10}, []int64{1, 2}, []int64{2, 1}, []int64{3, 2})
	is(t, d, "customer", 3, 1, 1, 1, 100, 101, 0, 0)
	is(t, d, "customer", 3, 1, 3, 1, 100, 907, 0, 0)
	has(t, d, "fresh", []int64{1, 1, 3}, []int64{2, 2, 1})
	tells(t, d, "bring", []int64{1, 1}, []int64{1, 3})
	is(t, d, "customer", 3, 1, 1, 1, 100, 404, 0, 0)
	is(t, d, "orders", 3, 1, 1, 3, 1, 1, 1)
	// Each once.
	before = all(d)
	tells(t, d, "bring", []int64{1, 1})
	tells(t, d, "bring", []int64{1, 2})
	if x := differ(all(d), before); x != "" {
		t.Error(x)
	}
	tells(t, d, "bring", []int64{2, 1}, []int64{2, 1})
	has(t, d, "fresh")
	sounds(t, d, api.OK)
}

func TestBringManyOfOneDistrict(t *testing.T) {
	d := load(t, 1, 1, 2, 2)
	for o := range int64(40) {
		callOf(d, "new", []int64{1, 1, o%2 + 1, 2, 1, o%10 + 1})
	}
	for o := range int64(40) {
		tells(t, d, "bring", []int64{1, o%10 + 1}, []int64{1, o + 1})
		is(t, d, "orders", 3, 1, 1, o+1, o%2+1, 1, o%10+1)
		sounds(t, d, api.OK)
	}
	tells(t, d, "bring", []int64{1, 1})
}

func TestBringMissing(t *testing.T) {
	d := load(t, 1, 2, 1, 1)
	for _, list := range [][]int64{{2, 1}, {0, 1}, {-1, 10}} {
		refuses(t, d, "bring", list, api.ErrNone)
	}
	callOf(d, "new", []int64{1, 1, 1, 1, 1, 1})
	callOf(d, "new", []int64{1, 2, 1, 1, 1, 1})
	// An order, or a customer, that others took away: of the second district, too, and nothing is changed in the first one.
	for _, n := range []int64{1, 2} {
		order, buyer := rowOf(t, d, "orders", 1, n, 1), rowOf(t, d, "customer", 1, n, 1)
		remove(t, d, "orders", 1, n, 1)
		refuses(t, d, "bring", []int64{1, 1}, api.ErrNone)
		putRow(t, d, "orders", order)
		remove(t, d, "customer", 1, n, 1)
		refuses(t, d, "bring", []int64{1, 1}, api.ErrNone)
		putRow(t, d, "customer", buyer)
	}
	sounds(t, d, api.OK)
	remove(t, d, "house", 1)
	refuses(t, d, "bring", []int64{1, 1}, api.ErrNone)
	put(t, d, "house", 1, 100, 0)
	// Items, stocks and lines may be missing; a district that is not there is none of the house's.
	remove(t, d, "item", 1)
	remove(t, d, "stock", 1, 1)
	remove(t, d, "line", 1, 1, 1, 1)
	remove(t, d, "district", 1, 2)
	tells(t, d, "bring", []int64{1, 4}, []int64{1, 1})
	is(t, d, "customer", 3, 1, 1, 1, 100, 0, 0, 0)
	is(t, d, "customer", 3, 1, 2, 1, 100, 0, 0, 0)
	has(t, d, "fresh", []int64{1, 2, 1})
	tells(t, d, "bring", []int64{1, 4})
}

// Districts come one after the other: what is wrong in the first one is told first.
func TestBringTellsTheFirst(t *testing.T) {
	books := func() *table.Data {
		d := load(t, 1, 2, 1, 1)
		callOf(d, "new", []int64{1, 1, 1, 1, 1, 1})
		callOf(d, "new", []int64{1, 2, 1, 1, 1, 1})
		return d
	}
	d := books()
	setTo(t, d, "customer", 4, great, 1, 1, 1)
	refuses(t, d, "bring", []int64{1, 1}, api.ErrRange)
	remove(t, d, "orders", 1, 2, 1)
	refuses(t, d, "bring", []int64{1, 1}, api.ErrRange)
	remove(t, d, "house", 1)
	refuses(t, d, "bring", []int64{1, 1}, api.ErrNone)
	d = books()
	setTo(t, d, "customer", 4, great, 1, 2, 1)
	refuses(t, d, "bring", []int64{1, 1}, api.ErrRange)
	remove(t, d, "customer", 1, 1, 1)
	refuses(t, d, "bring", []int64{1, 1}, api.ErrNone)
}

func TestBringRaises(t *testing.T) {
	raised(t, func() *table.Data {
		d := load(t, 1, 1, 1, 1)
		callOf(d, "new", []int64{1, 1, 1, 1, 1, 7})
		return d
	}, "customer", 4, []int64{1, 1, 1}, 707, "bring", []int64{1, 1})
}

// The amounts of lines that others have changed: their sum wraps, and so does the balance with it; it is to be an amount in the end.
func TestBringSums(t *testing.T) {
	for _, x := range []struct {
		balance int64
		amounts []int64
		want    int64
		code    api.Errno
	}{
		{0, nil, 0, api.OK}, {5, []int64{0}, 5, api.OK}, {5, []int64{-9}, -4, api.OK}, {0, []int64{1, 2, 3, 4}, 10, api.OK},
		{0, []int64{great}, great, api.OK}, {1, []int64{great}, 0, api.ErrRange}, {0, []int64{great, 1}, 0, api.ErrRange}, {0, []int64{great, great, least}, great, api.OK},
		{0, []int64{least}, least, api.OK}, {-1, []int64{least}, 0, api.ErrRange}, {great + 1, nil, 0, api.ErrRange}, {great + 1, []int64{-1}, great, api.OK},
		{least, []int64{great, great}, great, api.OK}, {least, []int64{great, great, 1}, 0, api.ErrRange}, {great, []int64{great + 1, least - 1}, great, api.OK},
		{0, []int64{math.MaxInt64, math.MaxInt64, 7}, 5, api.OK}, {9, []int64{math.MinInt64, math.MinInt64}, 9, api.OK}, {math.MinInt64, []int64{math.MinInt64}, 0, api.OK}, {math.MaxInt64, []int64{math.MaxInt64}, -2, api.OK},
		{0, []int64{math.MaxInt64}, 0, api.ErrRange}, {math.MaxInt64, []int64{1}, 0, api.ErrRange}, {-1, []int64{math.MinInt64}, 0, api.ErrRange},
	} {
		d := load(t, 1, 1, 1, 1)
		setTo(t, d, "customer", 4, x.balance, 1, 1, 1)
		put(t, d, "orders", 1, 1, 1, 1, 99, 0)
		put(t, d, "fresh", 1, 1, 1)
		for n, amount := range x.amounts {
			// All lines count, whatever their numbers are.
			put(t, d, "line", 1, 1, 1, int64(n)*7-5, 1, 1, 1, amount)
		}
		put(t, d, "line", 1, 1, 0, 1, 1, 1, 1, 77)
		put(t, d, "line", 1, 1, 2, 1, 1, 1, 1, 77)
		if x.code != api.OK {
			refuses(t, d, "bring", []int64{1, 1}, x.code)
			continue
		}
		tells(t, d, "bring", []int64{1, 1}, []int64{1, 1})
		is(t, d, "customer", 3, 1, 1, 1, 100, x.want, 0, 0)
		is(t, d, "orders", 3, 1, 1, 1, 1, 99, 1)
	}
}

func TestBringNulls(t *testing.T) {
	d := load(t, 1, 1, 1, 1)
	putRow(t, d, "customer", append(whole(1, 1, 0), null, null, null, null))
	putRow(t, d, "orders", append(whole(1, 1, -3), null, null, null))
	put(t, d, "fresh", 1, 1, -3)
	putRow(t, d, "line", append(whole(1, 1, -3, 1), null, null, null, null))
	tells(t, d, "bring", []int64{1, 6}, []int64{1, -3})
	want := all(load(t, 1, 1, 1, 1))
	want["customer"] = [][]api.Value{append(whole(1, 1, 0), null, whole(0)[0], null, null), whole(1, 1, 1, 100, 0, 0, 0)}
	want["orders"] = [][]api.Value{append(whole(1, 1, -3), null, null, whole(6)[0])}
	want["line"] = [][]api.Value{append(whole(1, 1, -3, 1), null, null, null, null)}
	if x := differ(all(d), want); x != "" {
		t.Error(x)
	}
}

// Houses, districts and orders at both ends of all numbers.
func TestBringAtTheEnds(t *testing.T) {
	ends := []int64{math.MinInt64, -1, 0, math.MaxInt64 - 1, math.MaxInt64}
	d := load(t, 1, 1, 1, 1)
	for _, w := range ends {
		put(t, d, "house", w, 0, 0)
		for _, n := range ends {
			put(t, d, "district", w, n, 0, 0, 0)
			put(t, d, "customer", w, n, 8, 0, 0, 0, 0)
			for _, o := range ends {
				put(t, d, "orders", w, n, o, 8, 0, 0)
				put(t, d, "fresh", w, n, o)
				put(t, d, "line", w, n, o, math.MinInt64, 0, 0, 0, 3)
				put(t, d, "line", w, n, o, math.MaxInt64, 0, 0, 0, 4)
			}
		}
	}
	for _, w := range ends {
		for at, o := range ends {
			var want [][]int64
			for _, n := range ends {
				want = append(want, []int64{n, o})
			}
			tells(t, d, "bring", []int64{w, 2}, want...)
			for _, n := range ends {
				is(t, d, "customer", 3, w, n, 8, 0, int64(at+1)*7, 0, 0)
			}
		}
		tells(t, d, "bring", []int64{w, 2})
	}
	has(t, d, "fresh")
}
