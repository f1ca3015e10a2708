package build_test

import (
	"fmt"
	"math"
	"strings"

	"hopper/api"
)

// Tables, indexes and values that many tests take.

// example is chapter 14's, without an index.
func example() api.Table {
	return api.Table{Name: "t", Columns: []api.Column{{Name: "a", Kind: api.VInt}, {Name: "b", Kind: api.VText}}, Key: 1}
}

// byText is its index of the column 1.
func byText(unique bool) api.Index {
	return api.Index{Name: "i", Columns: []int{1}, Unique: unique}
}

func line(n int64, s string) row { return row{num(n), txt(s)} }

// set and cut are writes of the example's table.
func set(n int64, s string) api.Write { return put("t", 1, num(n), txt(s)) }

func setNull(n int64) api.Write { return put("t", 1, num(n), null()) }

func cut(n int64) api.Write { return gone("t", num(n)) }

// kinds has a column of each kind, of which some are its key, and indexes already.
func kinds(key int) api.Table {
	x := api.Table{Name: "k", Key: key}
	for kind := api.VBool; kind <= api.VText; kind++ {
		x.Columns = append(x.Columns, api.Column{Name: string(rune('a' + kind)), Kind: kind})
	}
	x.Indexes = []api.Index{{Name: "i0", Columns: []int{0}}, {Name: "i1", Columns: []int{4, 1}, Unique: true}}
	return x
}

// rising are values of one kind, in their order.
func rising(kind int) []api.Value {
	minus := math.Copysign(0, -1)
	switch kind {
	case api.VBool:
		return []api.Value{yes(0), yes(1)}
	case api.VInt:
		return []api.Value{num(math.MinInt64), num(-256), num(-1), num(0), num(1), num(255), num(256), num(math.MaxInt64)}
	case api.VFloat:
		return []api.Value{flo(math.Inf(-1)), flo(-1.5), flo(-math.SmallestNonzeroFloat64), flo(minus), flo(0), flo(math.SmallestNonzeroFloat64), flo(2), flo(math.Inf(1))}
	case api.VPair:
		return []api.Value{pair(complex(math.Inf(-1), 0)), pair(complex(minus, minus)), pair(complex(minus, 0)), pair(complex(0, -1)), pair(complex(0, minus)), pair(0), pair(1i), pair(complex(1, math.Inf(-1)))}
	}
	return []api.Value{txt(""), txt("\x00"), txt("\x00\x00"), txt("\x00\x01"), txt("\x00\xff"), txt("\x01"), txt("a"), txt("a\x00"), txt("a\x00b"), txt("a\x01"), txt("aa"), txt("b"), txt("\xff"), txt(strings.Repeat("\xff", api.MaxText))}
}

// bad are values that may not be.
func bad() []api.Value {
	return []api.Value{
		{Kind: -1}, {Kind: 6}, {Kind: math.MaxInt}, {Kind: math.MinInt},
		{N: 1}, {S: "x"}, {C: 1}, {Kind: api.VBool, N: 2}, {Kind: api.VBool, N: -1}, {Kind: api.VInt, S: "x"}, {Kind: api.VInt, C: 1i},
		{Kind: api.VFloat, C: 1i}, {Kind: api.VFloat, C: complex(math.NaN(), 0)}, {Kind: api.VFloat, N: 1}, {Kind: api.VPair, C: complex(0, math.NaN())},
		{Kind: api.VPair, S: "x"}, {Kind: api.VText, N: 1}, {Kind: api.VText, C: 1}, txt(strings.Repeat("x", api.MaxText+1)),
	}
}

// greatest has as many columns as may be, all of them texts and its key, and long answers rows whose keys have more bytes than layer 5 writes at once.
func greatest() (api.Table, api.Index) {
	x := api.Table{Name: "g", Key: api.MaxRow}
	i := api.Index{Name: "i", Unique: true}
	for n := range api.MaxRow {
		x.Columns = append(x.Columns, api.Column{Name: fmt.Sprint("c", n), Kind: api.VText})
		i.Columns = append(i.Columns, api.MaxRow-1-n)
	}
	return x, i
}

func long(last string) row {
	r := row{}
	for range api.MaxRow - 1 {
		r = append(r, txt(strings.Repeat("\x00", api.MaxText)))
	}
	return append(r, txt(strings.Repeat("\x00", api.MaxText-len(last))+last))
}

// many are rows of the example's table with the keys from one number up to another one, all with a text of their own.
func many(from, to int) (out []row) {
	for n := from; n < to; n++ {
		out = append(out, line(int64(n), fmt.Sprint("x", n)))
	}
	return out
}
