package ckpt_test

import (
	"math"
	"strings"

	"hopper/api"
)

// Tables that many tests take.

// plain has one column, its key.
func plain(name string) api.Table {
	return api.Table{Name: name, Columns: []api.Column{{Name: "a", Kind: api.VInt}}, Key: 1}
}

// example is chapter 14's, with an index that is unique or not.
func example(name string, unique bool) api.Table {
	return api.Table{
		Name:    name,
		Columns: []api.Column{{Name: "a", Kind: api.VInt}, {Name: "b", Kind: api.VText}},
		Key:     1,
		Indexes: []api.Index{{Name: "i", Columns: []int{1}, Unique: unique}},
	}
}

// chapters is the chapter's example: one table of two rows.
func chapters() []modelTable {
	return []modelTable{{plain("t"), []row{{num(1)}, {num(2)}}}}
}

// kinds has columns of all kinds, of which some are its key, and indexes of many sorts.
func kinds(name string, key int) api.Table {
	x := api.Table{Name: name, Key: key}
	for kind := api.VBool; kind <= api.VText; kind++ {
		x.Columns = append(x.Columns, api.Column{Name: string(rune('a' + kind)), Kind: kind})
	}
	x.Indexes = []api.Index{
		{Name: "all", Columns: []int{4, 3, 2, 1, 0}, Unique: true},
		{Name: "one", Columns: []int{3}},
		{Name: "twice", Columns: []int{4, 4}},
		{Name: "u", Columns: []int{1, 4}, Unique: true},
	}
	return x
}

// mixed are tables of all sorts, with rows or without, in order.
func mixed() []modelTable {
	minus := math.Copysign(0, -1)
	long := strings.Repeat("m", api.MaxText)
	return []modelTable{
		{plain("0"), []row{{num(math.MinInt64)}, {num(-1)}, {num(0)}, {num(math.MaxInt64)}}},
		{plain("00"), nil},
		{example("9z", true), []row{{num(-5), null()}, {num(1), txt("x")}, {num(2), txt("")}, {num(3), null()}, {num(4), txt("\x00\xff")}}},
		{example("a", false), []row{{num(1), txt("x")}, {num(2), txt("x")}, {num(3), txt("a")}}},
		{kinds("k1", 1), []row{
			{yes(0), num(1), flo(minus), pair(complex(minus, 0)), txt("x")},
			{yes(1), num(1), flo(0), pair(complex(0, minus)), txt("y")},
		}},
		{kinds("k4", 4), []row{
			{yes(0), num(1), flo(math.Inf(-1)), pair(complex(math.Inf(1), math.MaxFloat64)), txt("x")},
			{yes(0), num(1), flo(minus), pair(complex(minus, minus)), null()},
			{yes(0), num(1), flo(minus), pair(complex(minus, 0)), null()},
			{yes(0), num(1), flo(0), pair(complex(minus, 0)), txt(long)},
			{yes(1), num(-1), flo(math.SmallestNonzeroFloat64), pair(1i), txt("")},
		}},
		{kinds("k5", 5), nil},
		{plain(strings.Repeat("z", api.MaxName)), []row{{num(7)}}},
	}
}

// wide has a key and as many texts as there may be, so that its rows may have many bytes.
func wide(name string) api.Table {
	x := plain(name)
	for n := range api.MaxRow - 1 {
		x.Columns = append(x.Columns, api.Column{Name: "t" + brief(n), Kind: api.VText})
	}
	return x
}

// least is how many bytes the body of wide's shortest row has.
const least = 1 + 1 + 9 + (api.MaxRow - 1)

// sized is a row of wide with that key, whose body has so many bytes: least at least, but not one more.
func sized(key int64, size int) row {
	r := make(row, api.MaxRow)
	r[0] = num(key)
	left := size - least
	for at := 1; left > 0; at++ {
		// A text takes two bytes more than null, and its own; what is left is no one byte.
		take := min(left, 2+api.MaxText)
		if left-take == 1 {
			take--
		}
		r[at] = txt(strings.Repeat(string(rune('a'+key%26)), take-2))
		left -= take
	}
	return r
}

// heavy are tables of several parts.
func heavy() []modelTable {
	var out []modelTable
	for n, name := range []string{"a", "b", "c"} {
		x := modelTable{schema: wide(name)}
		for key := range int64(6) {
			x.rows = append(x.rows, sized(key, 9000*(n+1)+int(key)*7000))
		}
		out = append(out, x)
	}
	return out
}
