package tpcc_test

import (
	"math"
	"testing"

	"hopper/api"
	"hopper/table"
)

// 23.2: pay.

func TestPayWrittenOut(t *testing.T) {
	d := load(t, 2, 2, 2, 1)
	tells(t, d, "pay", []int64{1, 2, 2, 700}, []int64{-700})
	has(t, d, "house", []int64{1, 100, 700}, []int64{2, 200, 0})
	has(t, d, "district", []int64{1, 1, 50, 0, 1}, []int64{1, 2, 100, 700, 1}, []int64{2, 1, 50, 0, 1}, []int64{2, 2, 100, 0, 1})
	is(t, d, "customer", 3, 1, 2, 2, 200, -700, 700, 1)
	is(t, d, "customer", 3, 1, 2, 1, 100, 0, 0, 0)
	is(t, d, "customer", 3, 1, 1, 2, 200, 0, 0, 0)
	is(t, d, "customer", 3, 2, 2, 2, 200, 0, 0, 0)
	sounds(t, d, api.OK)
	tells(t, d, "pay", []int64{1, 2, 2, 1}, []int64{-701})
	tells(t, d, "pay", []int64{1, 2, 1, 50}, []int64{-50})
	tells(t, d, "pay", []int64{1, 1, 1, 9}, []int64{-9})
	has(t, d, "house", []int64{1, 100, 760}, []int64{2, 200, 0})
	is(t, d, "district", 2, 1, 2, 100, 751, 1)
	is(t, d, "customer", 3, 1, 2, 2, 200, -701, 701, 2)
	tells(t, d, "new", []int64{1, 2, 2, 1, 1, 10}, []int64{1, 1010 + 20 - 21})
	tells(t, d, "bring", []int64{1, 1}, []int64{2, 1})
	tells(t, d, "pay", []int64{1, 2, 2, 9}, []int64{300})
	sounds(t, d, api.OK)
}

func TestPayMissing(t *testing.T) {
	d := load(t, 2, 2, 2, 2)
	for _, list := range [][]int64{{3, 1, 1, 5}, {1, 3, 1, 5}, {1, 1, 3, 5}, {0, 1, 1, 5}, {1, 0, 1, 5}, {1, 1, 0, 5}, {3, 3, 3, 5}} {
		refuses(t, d, "pay", list, api.ErrNone)
	}
	sounds(t, d, api.OK)
	for _, x := range []struct {
		table string
		key   []int64
	}{{"house", []int64{1}}, {"district", []int64{1, 2}}, {"customer", []int64{1, 2, 2}}} {
		d := load(t, 2, 2, 2, 2)
		remove(t, d, x.table, x.key...)
		refuses(t, d, "pay", []int64{1, 2, 2, 5}, api.ErrNone)
		// Nor is a sum that would be no amount told ahead of it.
		if x.table != "house" {
			setTo(t, d, "house", 2, great, 1)
			refuses(t, d, "pay", []int64{1, 2, 2, 5}, api.ErrNone)
		}
	}
}

func TestPayRaises(t *testing.T) {
	one := func() *table.Data { return load(t, 1, 1, 1, 1) }
	for _, a := range []int64{1, 2, 700, great - 1, great} {
		list := []int64{1, 1, 1, a}
		raised(t, one, "house", 2, []int64{1}, a, "pay", list)
		raised(t, one, "district", 3, []int64{1, 1}, a, "pay", list)
		raised(t, one, "customer", 5, []int64{1, 1, 1}, a, "pay", list)
		raised(t, one, "customer", 6, []int64{1, 1, 1}, 1, "pay", list)
	}
}

// The balance is lowered, down to the least amount.
func TestPayLowers(t *testing.T) {
	for _, a := range []int64{1, 700, great} {
		for _, x := range []struct {
			was  int64
			want api.Errno
		}{
			{0, api.OK}, {a, api.OK}, {great, api.OK}, {great + a, api.OK}, {great + a + 1, api.ErrRange}, {math.MaxInt64, api.ErrRange},
			{least + a, api.OK}, {least + a - 1, api.ErrRange}, {least - 1, api.ErrRange}, {math.MinInt64 + a, api.ErrRange}, {math.MinInt64 + a - 1, api.ErrRange}, {math.MinInt64, api.ErrRange},
		} {
			d := load(t, 1, 1, 1, 1)
			setTo(t, d, "customer", 4, x.was, 1, 1, 1)
			if x.want != api.OK {
				refuses(t, d, "pay", []int64{1, 1, 1, a}, x.want)
				continue
			}
			tells(t, d, "pay", []int64{1, 1, 1, a}, []int64{x.was - a})
			is(t, d, "customer", 3, 1, 1, 1, 100, x.was-a, a, 1)
		}
	}
}

func TestPayNulls(t *testing.T) {
	d := load(t, 1, 1, 1, 1)
	putRow(t, d, "house", append(whole(1), null, null))
	putRow(t, d, "district", append(whole(1, 1), null, null, null))
	putRow(t, d, "customer", append(whole(1, 1, 1), null, null, null, null))
	tells(t, d, "pay", []int64{1, 1, 1, 5}, []int64{-5})
	want := all(load(t, 1, 1, 1, 1))
	five := whole(5)[0]
	want["house"] = [][]api.Value{append(whole(1), null, five)}
	want["district"] = [][]api.Value{append(whole(1, 1), null, five, null)}
	want["customer"] = [][]api.Value{append(whole(1, 1, 1), null, whole(-5)[0], five, whole(1)[0])}
	if x := differ(all(d), want); x != "" {
		t.Error(x)
	}
}
