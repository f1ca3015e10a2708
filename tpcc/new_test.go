package tpcc_test

import (
	"math"
	"slices"
	"testing"

	"hopper/api"
	"hopper/table"
)

// 23.2: new.

// free answers books of one house, district, customer and as many items, without taxes and what is off.
func free(t *testing.T, items int) *table.Data {
	t.Helper()
	d := load(t, 1, 1, 1, items)
	setTo(t, d, "house", 1, 0, 1)
	setTo(t, d, "district", 2, 0, 1, 1)
	setTo(t, d, "customer", 3, 0, 1, 1, 1)
	return d
}

func TestNewWrittenOut(t *testing.T) {
	d := load(t, 2, 2, 2, 3)
	// 2 times 101, and 301 from the other house: 503; a fiftieth on it (10.06): 513; less a fiftieth of that (10.26).
	tells(t, d, "new", []int64{1, 2, 2, 1, 1, 2, 3, 2, 1}, []int64{1, 503 + 10 - 10})
	has(t, d, "house", []int64{1, 100, 0}, []int64{2, 200, 0})
	has(t, d, "district", []int64{1, 1, 50, 0, 1}, []int64{1, 2, 100, 0, 2}, []int64{2, 1, 50, 0, 1}, []int64{2, 2, 100, 0, 1})
	is(t, d, "customer", 3, 1, 2, 2, 200, 0, 0, 0)
	has(t, d, "stock", []int64{1, 1, 48, 2, 1}, []int64{1, 2, 50, 0, 0}, []int64{1, 3, 50, 0, 0}, []int64{2, 1, 50, 0, 0}, []int64{2, 2, 50, 0, 0}, []int64{2, 3, 49, 1, 1})
	has(t, d, "orders", []int64{1, 2, 1, 2, 2, 0})
	has(t, d, "fresh", []int64{1, 2, 1})
	has(t, d, "line", []int64{1, 2, 1, 1, 1, 1, 2, 202}, []int64{1, 2, 1, 2, 3, 2, 1, 301})
	tells(t, d, "new", []int64{1, 2, 1, 2, 1, 10}, []int64{2, 2010 + 40 - 21})
	tells(t, d, "new", []int64{2, 2, 1, 2, 1, 1}, []int64{1, 201 + 6 - 2})
	has(t, d, "district", []int64{1, 1, 50, 0, 1}, []int64{1, 2, 100, 0, 3}, []int64{2, 1, 50, 0, 1}, []int64{2, 2, 100, 0, 2})
	has(t, d, "orders", []int64{1, 2, 1, 2, 2, 0}, []int64{1, 2, 2, 1, 1, 0}, []int64{2, 2, 1, 1, 1, 0})
	has(t, d, "fresh", []int64{1, 2, 1}, []int64{1, 2, 2}, []int64{2, 2, 1})
	has(t, d, "line", []int64{1, 2, 1, 1, 1, 1, 2, 202}, []int64{1, 2, 1, 2, 3, 2, 1, 301}, []int64{1, 2, 2, 1, 2, 1, 10, 2010}, []int64{2, 2, 1, 1, 2, 1, 1, 201})
	is(t, d, "stock", 2, 1, 2, 39, 11, 2)
	sounds(t, d, api.OK)
}

// What is left is filled up, if it would be below 10.
func TestNewLeft(t *testing.T) {
	for _, x := range []struct{ left, many, want int64 }{
		{50, 1, 49}, {50, 10, 40}, {20, 10, 10}, {19, 9, 10}, {11, 1, 10}, {19, 10, 100}, {10, 1, 100}, {18, 10, 99}, {10, 10, 91}, {9, 1, 99}, {1, 1, 91}, {1, 10, 82}, {0, 1, 90}, {0, 10, 81},
		{-1, 1, 89}, {-80, 1, 10}, {-81, 1, 9}, {-200, 10, -119}, {great + 50, 10, great + 40}, {least, 10, least + 81}, {math.MaxInt64, 10, math.MaxInt64 - 10},
		{math.MinInt64 + 10, 10, math.MinInt64 + 91}, {math.MinInt64 + 9, 10, math.MaxInt64}, {math.MinInt64, 1, math.MaxInt64}, {math.MinInt64, 10, math.MaxInt64 - 9},
	} {
		d := free(t, 1)
		setTo(t, d, "stock", 2, x.left, 1, 1)
		tells(t, d, "new", []int64{1, 1, 1, 1, 1, x.many}, []int64{1, 101 * x.many})
		has(t, d, "stock", []int64{1, 1, x.want, x.many, 1})
		sounds(t, d, api.OK)
	}
}

// A stock that comes twice is changed twice; another house's of the same item is another stock.
func TestNewStockTwice(t *testing.T) {
	d := load(t, 2, 1, 1, 2)
	setTo(t, d, "stock", 2, 21, 1, 1)
	tells(t, d, "new", []int64{1, 1, 1, 1, 1, 6, 2, 1, 1, 1, 1, 5, 1, 2, 3, 1, 1, 1}, []int64{1, 1716 + 26 - 17})
	has(t, d, "stock", []int64{1, 1, 100, 12, 3}, []int64{1, 2, 49, 1, 1}, []int64{2, 1, 47, 3, 1}, []int64{2, 2, 50, 0, 0})
	has(t, d, "line", []int64{1, 1, 1, 1, 1, 1, 6, 606}, []int64{1, 1, 1, 2, 2, 1, 1, 201}, []int64{1, 1, 1, 3, 1, 1, 5, 505}, []int64{1, 1, 1, 4, 1, 2, 3, 303}, []int64{1, 1, 1, 5, 1, 1, 1, 101})
	sounds(t, d, api.OK)
	// 15 times the same.
	d = free(t, 1)
	tells(t, d, "new", args([]int64{1, 1, 1}, slices.Repeat([]int64{1, 1, 10}, 15)), []int64{1, 15150})
	left := int64(50)
	for range 15 {
		left -= 10
		if left < 10 {
			left += 91
		}
	}
	has(t, d, "stock", []int64{1, 1, left, 150, 15})
	is(t, d, "orders", 3, 1, 1, 1, 1, 15, 0)
	is(t, d, "line", 4, 1, 1, 1, 15, 1, 1, 10, 1010)
	sounds(t, d, api.OK)
}

// Rows that are not there: each alone, and several of them.
func TestNewMissing(t *testing.T) {
	d := load(t, 2, 2, 2, 3)
	for _, x := range []struct {
		args []int64
		want api.Errno
	}{
		{[]int64{3, 1, 1, 1, 1, 1}, api.ErrNone}, {[]int64{1, 3, 1, 1, 1, 1}, api.ErrNone}, {[]int64{1, 1, 3, 1, 1, 1}, api.ErrNone}, {[]int64{1, 1, 1, 4, 1, 1}, api.ErrItem}, {[]int64{1, 1, 1, 1, 3, 1}, api.ErrNone},
		{[]int64{0, 1, 1, 1, 1, 1}, api.ErrNone}, {[]int64{1, 0, 1, 1, 1, 1}, api.ErrNone}, {[]int64{1, 1, 0, 1, 1, 1}, api.ErrNone}, {[]int64{1, 1, 1, 0, 1, 1}, api.ErrItem}, {[]int64{1, 1, 1, 1, 0, 1}, api.ErrNone},
		// The house, the district, the customer ahead of items.
		{[]int64{3, 1, 1, 4, 1, 1}, api.ErrNone}, {[]int64{1, 3, 1, 4, 1, 1}, api.ErrNone}, {[]int64{1, 1, 3, 4, 1, 1}, api.ErrNone}, {[]int64{3, 3, 3, 4, 3, 1}, api.ErrNone},
		// An item ahead of its stock; one line ahead of the next one.
		{[]int64{1, 1, 1, 4, 3, 1}, api.ErrItem},
		{[]int64{1, 1, 1, 1, 1, 1, 4, 1, 1}, api.ErrItem}, {[]int64{1, 1, 1, 1, 1, 1, 2, 3, 1}, api.ErrNone},
		{[]int64{1, 1, 1, 1, 3, 1, 4, 1, 1}, api.ErrNone}, {[]int64{1, 1, 1, 4, 1, 1, 1, 3, 1}, api.ErrItem},
		{[]int64{1, 1, 1, 1, 1, 1, 1, 3, 1, 4, 1, 1}, api.ErrNone}, {[]int64{1, 1, 1, 1, 1, 1, 4, 1, 1, 1, 3, 1}, api.ErrItem},
		{args([]int64{1, 1, 1}, slices.Repeat([]int64{1, 1, 10}, 14), []int64{4, 1, 1}), api.ErrItem}, {args([]int64{1, 1, 1}, slices.Repeat([]int64{1, 1, 10}, 14), []int64{3, 3, 1}), api.ErrNone},
	} {
		refuses(t, d, "new", x.args, x.want)
	}
	if x := differ(all(d), loadedRows(t, 2, 2, 2, 3)); x != "" {
		t.Error(x)
	}
	// Each row taken away by others.
	for _, x := range []struct {
		table string
		key   []int64
		want  api.Errno
	}{
		{"house", []int64{1}, api.ErrNone}, {"district", []int64{1, 2}, api.ErrNone}, {"customer", []int64{1, 2, 2}, api.ErrNone}, {"item", []int64{2}, api.ErrItem}, {"stock", []int64{2, 2}, api.ErrNone},
	} {
		d := load(t, 2, 2, 2, 3)
		remove(t, d, x.table, x.key...)
		refuses(t, d, "new", []int64{1, 2, 2, 1, 1, 1, 2, 2, 1}, x.want)
	}
	// Others that are not there are not missed.
	for _, x := range []struct {
		table string
		key   []int64
	}{{"house", []int64{2}}, {"district", []int64{2, 2}}, {"customer", []int64{1, 2, 1}}, {"item", []int64{3}}, {"stock", []int64{1, 2}}} {
		d := load(t, 2, 2, 2, 3)
		remove(t, d, x.table, x.key...)
		tells(t, d, "new", []int64{1, 2, 2, 1, 1, 1, 2, 2, 1}, []int64{1, 302 + 6 - 6})
	}
}

// What is missing is told ahead of what is no amount.
func TestNewReadsAheadOfReckoning(t *testing.T) {
	d := load(t, 1, 1, 1, 2)
	setTo(t, d, "district", 4, great, 1, 1)
	setTo(t, d, "item", 1, great, 1)
	setTo(t, d, "stock", 3, great, 1, 1)
	refuses(t, d, "new", []int64{1, 1, 1, 1, 1, 2}, api.ErrRange)
	refuses(t, d, "new", []int64{1, 1, 1, 1, 1, 2, 3, 1, 1}, api.ErrItem)
	refuses(t, d, "new", []int64{1, 1, 1, 1, 1, 2, 2, 2, 1}, api.ErrNone)
	refuses(t, d, "new", []int64{1, 1, 2, 1, 1, 2}, api.ErrNone)
}

// raised looks how far a number of a row may be raised: by that a call is done, and refused one beyond.
func raised(t *testing.T, d func() *table.Data, name string, column int, key []int64, by int64, call string, list []int64) {
	t.Helper()
	for _, x := range []struct {
		was  int64
		want api.Errno
	}{
		{great - by, api.OK}, {great - by + 1, api.ErrRange}, {great, api.ErrRange}, {great + 1, api.ErrRange}, {math.MaxInt64 - by, api.ErrRange}, {math.MaxInt64 - by + 1, api.ErrRange}, {math.MaxInt64, api.ErrRange},
		{least - by, api.OK}, {least - by - 1, api.ErrRange}, {least, api.OK}, {math.MinInt64, api.ErrRange}, {0, api.OK}, {-by, api.OK},
	} {
		own := d()
		setTo(t, own, name, column, x.was, key...)
		if x.want != api.OK {
			refuses(t, own, call, list, x.want)
			continue
		}
		if r, done := callOf(own, call, list); r.Code != api.OK || !done {
			t.Errorf("%s %d, %s %d was %d: %d", call, list, name, column, x.was, r.Code)
		}
		if n := rowOf(t, own, name, key...)[column]; n != whole(x.was + by)[0] {
			t.Errorf("%s %d, %s %d was %d: %v", call, list, name, column, x.was, n)
		}
	}
}

func TestNewRaises(t *testing.T) {
	one := func() *table.Data { return free(t, 2) }
	list := []int64{1, 1, 1, 1, 1, 7}
	raised(t, one, "district", 4, []int64{1, 1}, 1, "new", list)
	raised(t, one, "stock", 3, []int64{1, 1}, 7, "new", list)
	raised(t, one, "stock", 4, []int64{1, 1}, 1, "new", list)
	list = []int64{1, 1, 1, 2, 1, 1, 1, 1, 7}
	raised(t, one, "stock", 3, []int64{1, 1}, 7, "new", list)
	raised(t, one, "stock", 4, []int64{1, 1}, 1, "new", list)
}

// Each raise is to come to an amount, the first one of a stock that comes twice, too.
func TestNewRaisesTwice(t *testing.T) {
	list := []int64{1, 1, 1, 1, 1, 7, 1, 1, 5}
	for was, want := range map[int64]api.Errno{great - 12: api.OK, great - 11: api.ErrRange, great - 7: api.ErrRange, least - 7: api.OK, least - 8: api.ErrRange, least - 12: api.ErrRange} {
		d := free(t, 1)
		setTo(t, d, "stock", 3, was, 1, 1)
		if want != api.OK {
			refuses(t, d, "new", list, want)
			continue
		}
		tells(t, d, "new", list, []int64{1, 1212})
		is(t, d, "stock", 2, 1, 1, 38, was+12, 2)
	}
	d := free(t, 1)
	setTo(t, d, "stock", 4, great-1, 1, 1)
	refuses(t, d, "new", list, api.ErrRange)
	setTo(t, d, "stock", 4, great-2, 1, 1)
	tells(t, d, "new", list, []int64{1, 1212})
}

// The amounts of lines, their sum, the tax on it, and what is off.
func TestNewAmounts(t *testing.T) {
	for _, x := range []struct {
		prices, many         []int64
		tax, tax2, off, want int64
		code                 api.Errno
	}{
		{prices: []int64{great}, many: []int64{1}, want: great},
		{prices: []int64{great + 1}, many: []int64{1}, code: api.ErrRange},
		{prices: []int64{great / 10}, many: []int64{10}, want: great},
		{prices: []int64{great/10 + 1}, many: []int64{10}, code: api.ErrRange},
		{prices: []int64{great/10 + 1}, many: []int64{9}, want: great/10*9 + 9},
		{prices: []int64{least}, many: []int64{1}, want: least},
		{prices: []int64{least - 1}, many: []int64{1}, code: api.ErrRange},
		{prices: []int64{least / 2}, many: []int64{2}, want: least},
		{prices: []int64{least/2 - 1}, many: []int64{2}, code: api.ErrRange},
		{prices: []int64{math.MaxInt64}, many: []int64{1}, code: api.ErrRange},
		{prices: []int64{math.MinInt64}, many: []int64{1}, code: api.ErrRange},
		{prices: []int64{0}, many: []int64{10}, want: 0},
		{prices: []int64{-7}, many: []int64{3}, want: -21},
		// Products that 64 bits do not hold.
		{prices: []int64{1 << 62}, many: []int64{4}, want: 0},
		{prices: []int64{1<<62 + 3}, many: []int64{4}, want: 12},
		{prices: []int64{1 << 62}, many: []int64{3}, code: api.ErrRange},
		{prices: []int64{math.MinInt64}, many: []int64{2}, want: 0},
		{prices: []int64{math.MinInt64 + 5}, many: []int64{10}, want: 50},
		// Sums: on the way one may be no amount.
		{prices: []int64{great - 1, 1}, many: []int64{1, 1}, want: great},
		{prices: []int64{great, 1}, many: []int64{1, 1}, code: api.ErrRange},
		{prices: []int64{great, great, least}, many: []int64{1, 1, 1}, want: great},
		{prices: []int64{great, least, great}, many: []int64{1, 1, 1}, want: great},
		{prices: []int64{great, great, least, -1}, many: []int64{1, 1, 1, 1}, want: great - 1},
		{prices: []int64{least, -1}, many: []int64{1, 1}, code: api.ErrRange},
		{prices: []int64{great, great, least, 1}, many: []int64{1, 1, 1, 1}, code: api.ErrRange},
		// A sum that is none, though what comes off it would be one.
		{prices: []int64{great, great}, many: []int64{1, 1}, off: 10000, code: api.ErrRange},
		// Taxes of both, rounded once; then what is off.
		{prices: []int64{100}, many: []int64{1}, tax: 25, tax2: 25, want: 101},
		{prices: []int64{100}, many: []int64{1}, tax: 25, tax2: 24, want: 100},
		{prices: []int64{1}, many: []int64{1}, tax: 5000, want: 2},
		{prices: []int64{-1}, many: []int64{1}, tax2: 5000, want: -2},
		{prices: []int64{1}, many: []int64{1}, tax: 5000, off: 2500, want: 1},
		{prices: []int64{1000}, many: []int64{1}, tax: 1000, off: 1000, want: 990},
		{prices: []int64{1000}, many: []int64{1}, off: 10000, want: 0},
		{prices: []int64{1000}, many: []int64{1}, off: 1000000, want: -99000},
		{prices: []int64{1000}, many: []int64{1}, tax: 1000000, want: 101000},
		{prices: []int64{1000}, many: []int64{1}, tax: 500000, tax2: 500000, off: 5, want: 101000 - 51},
		{prices: []int64{great}, many: []int64{1}, tax: 0, off: 10000, want: 0},
		{prices: []int64{great}, many: []int64{1}, tax: 1, code: api.ErrRange},
		{prices: []int64{great}, many: []int64{1}, tax: 1, off: 10000, code: api.ErrRange},
		{prices: []int64{great / 2}, many: []int64{1}, tax: 10000, want: great},
		{prices: []int64{great/2 + 1}, many: []int64{1}, tax: 10000, code: api.ErrRange},
		{prices: []int64{great / 100}, many: []int64{1}, off: 1000000, want: -99 * (great / 100)},
		{prices: []int64{great/100 + 1}, many: []int64{1}, off: 1000000, code: api.ErrRange},
		{prices: []int64{great / 4}, many: []int64{1}, off: 50000, code: api.ErrRange},
		{prices: []int64{great / 4}, many: []int64{1}, off: 40000, want: great/4 - great},
		{prices: []int64{great}, many: []int64{1}, tax: 1000000, off: 1000000, code: api.ErrRange},
		// Rates that are none, whatever there is to pay.
		{prices: []int64{100}, many: []int64{1}, tax: 1000001, code: api.ErrRange},
		{prices: []int64{0}, many: []int64{1}, tax: 500000, tax2: 500001, code: api.ErrRange},
		{prices: []int64{100}, many: []int64{1}, tax: -1, code: api.ErrRange},
		{prices: []int64{0}, many: []int64{1}, tax2: -1, code: api.ErrRange},
		{prices: []int64{100}, many: []int64{1}, off: -1, code: api.ErrRange},
		{prices: []int64{0}, many: []int64{1}, off: 1000001, code: api.ErrRange},
		{prices: []int64{100}, many: []int64{1}, off: math.MinInt64, code: api.ErrRange},
		// Only both taxes together are to be a rate.
		{prices: []int64{100}, many: []int64{1}, tax: -100, tax2: 200, want: 101},
		{prices: []int64{100}, many: []int64{1}, tax: math.MaxInt64, tax2: -math.MaxInt64 + 100, want: 101},
		{prices: []int64{100}, many: []int64{1}, tax: math.MinInt64, tax2: math.MinInt64, want: 100},
		{prices: []int64{100}, many: []int64{1}, tax: math.MaxInt64, tax2: math.MinInt64, code: api.ErrRange},
		{prices: []int64{100}, many: []int64{1}, tax: math.MaxInt64, tax2: 1, code: api.ErrRange},
	} {
		d := free(t, 5)
		setTo(t, d, "house", 1, x.tax, 1)
		setTo(t, d, "district", 2, x.tax2, 1, 1)
		setTo(t, d, "customer", 3, x.off, 1, 1, 1)
		list := []int64{1, 1, 1}
		var lines [][]int64
		for at, price := range x.prices {
			i := int64(at + 1)
			setTo(t, d, "item", 1, price, i)
			list = append(list, i, 1, x.many[at])
			lines = append(lines, []int64{1, 1, 1, i, i, 1, x.many[at], price * x.many[at]})
		}
		if x.code != api.OK {
			refuses(t, d, "new", list, x.code)
			continue
		}
		tells(t, d, "new", list, []int64{1, x.want})
		has(t, d, "line", lines...)
		sounds(t, d, api.OK)
	}
}

// In books that others have changed a null counts as 0, and stays null where nothing is changed.
func TestNewNulls(t *testing.T) {
	d := load(t, 1, 1, 1, 1)
	putRow(t, d, "house", append(whole(1), null, null))
	putRow(t, d, "district", append(whole(1, 1), null, null, null))
	putRow(t, d, "customer", append(whole(1, 1, 1), null, null, null, null))
	putRow(t, d, "item", append(whole(1), null))
	putRow(t, d, "stock", append(whole(1, 1), null, null, null))
	tells(t, d, "new", []int64{1, 1, 1, 1, 1, 4}, []int64{0, 0})
	want := tables{
		"house":    {append(whole(1), null, null)},
		"district": {append(whole(1, 1), null, null, whole(1)[0])},
		"customer": {append(whole(1, 1, 1), null, null, null, null)},
		"item":     {append(whole(1), null)},
		"stock":    {whole(1, 1, 87, 4, 1)},
		"orders":   {whole(1, 1, 0, 1, 1, 0)},
		"fresh":    {whole(1, 1, 0)},
		"line":     {whole(1, 1, 0, 1, 1, 1, 4, 0)},
	}
	if x := differ(all(d), want); x != "" {
		t.Error(x)
	}
	sounds(t, d, api.OK)
}

// An order that others put where the next one comes is written over, and so are lines; what else there is stays.
func TestNewOverOthers(t *testing.T) {
	d := free(t, 1)
	put(t, d, "orders", 1, 1, 1, 9, 9, 9)
	put(t, d, "fresh", 1, 1, 1)
	put(t, d, "line", 1, 1, 1, 1, 9, 9, 9, 9)
	put(t, d, "line", 1, 1, 1, 2, 9, 9, 9, 9)
	tells(t, d, "new", []int64{1, 1, 1, 1, 1, 2}, []int64{1, 202})
	has(t, d, "orders", []int64{1, 1, 1, 1, 1, 0})
	has(t, d, "fresh", []int64{1, 1, 1})
	has(t, d, "line", []int64{1, 1, 1, 1, 1, 1, 2, 202}, []int64{1, 1, 1, 2, 9, 9, 9, 9})
	// The next number may be any amount.
	for _, next := range []int64{-5, 0, least - 1, great - 1} {
		setTo(t, d, "district", 4, next, 1, 1)
		tells(t, d, "new", []int64{1, 1, 1, 1, 1, 1}, []int64{next, 101})
		is(t, d, "district", 2, 1, 1, 0, 0, next+1)
		is(t, d, "orders", 3, 1, 1, next, 1, 1, 0)
	}
}
