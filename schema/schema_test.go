package schema_test

import (
	"fmt"
	"math"
	"reflect"
	"slices"
	"strings"
	"testing"

	"hopper/api"
	"hopper/schema"
)

// example is the chapter's schema.
func example() api.Table {
	return api.Table{
		Name:    "t",
		Columns: []api.Column{{Name: "a", Kind: api.VInt}, {Name: "b", Kind: api.VText}},
		Key:     1,
		Indexes: []api.Index{{Name: "i", Columns: []int{1}}},
	}
}

// plainTable is the least that may be: one column.
func plainTable(name string) api.Table {
	return api.Table{Name: name, Columns: []api.Column{{Name: "a", Kind: api.VInt}}, Key: 1}
}

// wide has so many columns, of all kinds in turn.
func wide(columns int) api.Table {
	t := api.Table{Name: "wide", Key: 1}
	for i := range columns {
		t.Columns = append(t.Columns, api.Column{Name: fmt.Sprint("c", i), Kind: 1 + i%5})
	}
	return t
}

// indexed has four columns and so many indexes.
func indexed(indexes int) api.Table {
	t := wide(4)
	for i := range indexes {
		t.Indexes = append(t.Indexes, api.Index{Name: fmt.Sprint("i", i), Columns: []int{i % 4}, Unique: i%2 == 1})
	}
	return t
}

// greatest has as much as may be of everything.
func greatest(name string) api.Table {
	t := api.Table{Name: name, Key: api.MaxRow}
	numbers := make([]int, api.MaxRow)
	for i := range api.MaxRow {
		t.Columns = append(t.Columns, api.Column{Name: fmt.Sprintf("%032d", i), Kind: api.VText})
		numbers[i] = api.MaxRow - 1 - i
	}
	for i := range 8 {
		t.Indexes = append(t.Indexes, api.Index{Name: fmt.Sprintf("%032d", i), Columns: slices.Clone(numbers), Unique: true})
	}
	return t
}

// clone has its lists in memory of their own, just as long as they are.
func clone(t api.Table) api.Table {
	t.Columns = slices.Clip(slices.Clone(t.Columns))
	t.Indexes = slices.Clip(slices.Clone(t.Indexes))
	for i, x := range t.Indexes {
		t.Indexes[i].Columns = slices.Clip(slices.Clone(x.Columns))
	}
	return t
}

// with is a schema that was changed.
func with(t api.Table, change func(*api.Table)) api.Table {
	t = clone(t)
	change(&t)
	return t
}

// same tells whether two schemas are: a nil list is an empty one (R3).
func same(a, b api.Table) bool { return reflect.DeepEqual(plain(a), plain(b)) }

func plain(t api.Table) api.Table {
	t = clone(t)
	if len(t.Columns) == 0 {
		t.Columns = nil
	}
	if len(t.Indexes) == 0 {
		t.Indexes = nil
	}
	for i, x := range t.Indexes {
		if len(x.Columns) == 0 {
			t.Indexes[i].Columns = nil
		}
	}
	return t
}

// brief is as much of a thing as a message needs.
func brief(x any) string { return fmt.Sprintf("%.300s", fmt.Sprint(x)) }

// may holds that a schema may be by every call that asks whether it may.
func may(t *testing.T, x api.Table) {
	t.Helper()
	before := clone(x)
	if e := schema.Check(x); e != api.OK {
		t.Errorf("Check %s: %d, not OK", brief(x), e)
	}
	c := schema.New()
	if e := c.Create(x); e != api.OK {
		t.Errorf("Create %s: %d, not OK", brief(x), e)
	}
	found(t, c, x)
	if e := schema.Fits(x, rowOf(x)); e != api.OK {
		t.Errorf("Fits %s: %d, not OK", brief(x), e)
	}
	if !same(x, before) {
		t.Errorf("what was handed in has changed: %s, not %s", brief(x), brief(before))
	}
}

// mayNot holds that a schema may not be by every call that asks whether it may.
func mayNot(t *testing.T, x api.Table) {
	t.Helper()
	before := clone(x)
	if e := schema.Check(x); e != api.ErrSchema {
		t.Errorf("Check %s: %d, not ErrSchema", brief(x), e)
	}
	c := schema.New()
	if e := c.Create(x); e != api.ErrSchema {
		t.Errorf("Create %s: %d, not ErrSchema", brief(x), e)
	}
	names(t, c)
	for _, row := range [][]api.Value{nil, {{}}, rowOf(x)} {
		if e := schema.Fits(x, row); e != api.ErrSchema {
			t.Errorf("Fits %s of %d values: %d, not ErrSchema", brief(x), len(row), e)
		}
	}
	if !same(x, before) {
		t.Errorf("what was handed in has changed: %s, not %s", brief(x), brief(before))
	}
}

// sample is a value of a kind.
func sample(kind int) api.Value {
	switch kind {
	case api.VBool, api.VInt:
		return api.Value{Kind: kind, N: 1}
	case api.VFloat:
		return api.Value{Kind: kind, C: 1.5}
	case api.VPair:
		return api.Value{Kind: kind, C: 1 + 2i}
	case api.VText:
		return api.Value{Kind: kind, S: "x"}
	}
	return api.Value{}
}

// rowOf has a value of its kind in each column.
func rowOf(x api.Table) []api.Value {
	var row []api.Value
	for _, c := range x.Columns {
		row = append(row, sample(c.Kind))
	}
	return row
}

// 14.1: names.

// badNames are some that may not be: too short, too long, and each byte that is neither a to z nor 0 to 9, wherever it stands.
func badNames() []string {
	list := []string{"", strings.Repeat("a", 33), strings.Repeat("0", 34), strings.Repeat("z", 1000), "aä", "a b", "a.b", "a_b", "A", "Ab", "aB"}
	for b := range 256 {
		if 'a' <= b && b <= 'z' || '0' <= b && b <= '9' {
			continue
		}
		s := string([]byte{byte(b)})
		list = append(list, s, s+"a", "a"+s, "a"+s+"a", strings.Repeat("a", 31)+s, strings.Repeat("a", 32)+s)
	}
	return list
}

func goodNames() []string {
	list := []string{strings.Repeat("a", 32), strings.Repeat("9", 32), strings.Repeat("z", 31), strings.Repeat("0", 31), "a0z9", "0a", "abcdefghijklmnopqrstuvwxyz", "0123456789"}
	for _, b := range "abcdefghijklmnopqrstuvwxyz0123456789" {
		list = append(list, string(b))
	}
	return list
}

// named are the places at which a schema has a name, and how one is set there.
func named() map[string]func(x *api.Table, name string) {
	return map[string]func(x *api.Table, name string){
		"table":         func(x *api.Table, name string) { x.Name = name },
		"first column":  func(x *api.Table, name string) { x.Columns[0].Name = name },
		"middle column": func(x *api.Table, name string) { x.Columns[2].Name = name },
		"last column":   func(x *api.Table, name string) { x.Columns[3].Name = name },
		"first index":   func(x *api.Table, name string) { x.Indexes[0].Name = name },
		"last index":    func(x *api.Table, name string) { x.Indexes[2].Name = name },
	}
}

func TestNamesThatMayBe(t *testing.T) {
	for _, set := range named() {
		for _, name := range goodNames() {
			may(t, with(indexed(3), func(x *api.Table) { set(x, name) }))
		}
	}
}

func TestNamesThatMayNotBe(t *testing.T) {
	for _, set := range named() {
		for _, name := range badNames() {
			mayNot(t, with(indexed(3), func(x *api.Table) { set(x, name) }))
		}
	}
}

func TestABadByteAtEachPlaceOfAName(t *testing.T) {
	for at := range 32 {
		for _, b := range []byte("`{/:@[AZ_.-\x00 \xff") {
			name := []byte(strings.Repeat("k", 32))
			name[at] = b
			mayNot(t, plainTable(string(name)))
		}
	}
}

// The bytes at the edges of a to z and of 0 to 9, written out.
func TestBytesAtTheEdges(t *testing.T) {
	for _, b := range []byte{0x30, 0x39, 0x61, 0x7a} {
		may(t, plainTable(string([]byte{b})))
	}
	for _, b := range []byte{0x2f, 0x3a, 0x60, 0x7b} {
		mayNot(t, plainTable(string([]byte{b})))
	}
}

func TestTwoColumnsOfOneName(t *testing.T) {
	for i := range 32 {
		for j := range i {
			mayNot(t, with(wide(32), func(x *api.Table) { x.Columns[i].Name = x.Columns[j].Name }))
		}
	}
	mayNot(t, with(wide(2), func(x *api.Table) { x.Columns[0].Name, x.Columns[1].Name = "c", "c" }))
}

func TestTwoIndexesOfOneName(t *testing.T) {
	for i := range 8 {
		for j := range i {
			mayNot(t, with(indexed(8), func(x *api.Table) { x.Indexes[i].Name = x.Indexes[j].Name }))
		}
	}
}

// No two columns, and no two indexes: names of unlike things may be the same.
func TestOneNameOfUnlikeThings(t *testing.T) {
	may(t, with(example(), func(x *api.Table) { x.Indexes[0].Name = "a" }))
	may(t, with(example(), func(x *api.Table) { x.Indexes[0].Name = "b" }))
	may(t, with(example(), func(x *api.Table) { x.Indexes[0].Name = "t" }))
	may(t, with(example(), func(x *api.Table) { x.Columns[1].Name = "t" }))
	may(t, with(indexed(2), func(x *api.Table) {
		x.Name = "q"
		x.Columns[3].Name = "q"
		x.Indexes[1].Name = "q"
	}))
	may(t, with(example(), func(x *api.Table) { x.Columns[0].Name, x.Columns[1].Name = "bb", "b" }))
	may(t, with(example(), func(x *api.Table) { x.Columns[0].Name, x.Columns[1].Name = "b", "bb" }))
}

// 14.1: columns.

func TestHowManyColumns(t *testing.T) {
	for n := 1; n <= 32; n++ {
		may(t, wide(n))
	}
	for _, n := range []int{0, 33, 34, 64, 1000} {
		mayNot(t, wide(n))
	}
	mayNot(t, with(wide(0), func(x *api.Table) { x.Columns, x.Key = []api.Column{}, 0 }))
	mayNot(t, with(wide(33), func(x *api.Table) { x.Key = 33 }))
}

func TestKinds(t *testing.T) {
	for at := range 5 {
		for kind := 1; kind <= 5; kind++ {
			may(t, with(wide(5), func(x *api.Table) { x.Columns[at].Kind = kind }))
		}
		for _, kind := range []int{0, -1, -5, 6, 7, 255, 256, 257, 1<<32 + 1, math.MinInt, math.MinInt + 1, math.MaxInt} {
			mayNot(t, with(wide(5), func(x *api.Table) { x.Columns[at].Kind = kind }))
		}
	}
}

func TestKeys(t *testing.T) {
	for n := 1; n <= 32; n++ {
		for key := 1; key <= n; key++ {
			may(t, with(wide(n), func(x *api.Table) { x.Key = key }))
		}
		for _, key := range []int{0, -1, -2, n + 1, n + 2, 64, 1<<32 + 1, math.MinInt, math.MinInt + 1, math.MaxInt - 1, math.MaxInt} {
			mayNot(t, with(wide(n), func(x *api.Table) { x.Key = key }))
		}
	}
}

// 14.1: indexes.

func TestHowManyIndexes(t *testing.T) {
	for n := range 9 {
		may(t, indexed(n))
	}
	for _, n := range []int{9, 10, 16, 1000} {
		mayNot(t, indexed(n))
	}
	may(t, with(indexed(0), func(x *api.Table) { x.Indexes = []api.Index{} }))
	may(t, with(indexed(0), func(x *api.Table) { x.Indexes = nil }))
}

func TestHowManyColumnsOfAnIndex(t *testing.T) {
	for at := range 8 {
		for n := 1; n <= 32; n++ {
			may(t, with(indexed(8), func(x *api.Table) { x.Indexes[at].Columns = make([]int, n) }))
		}
		for _, n := range []int{0, 33, 34, 64, 1000} {
			mayNot(t, with(indexed(8), func(x *api.Table) { x.Indexes[at].Columns = make([]int, n) }))
		}
		mayNot(t, with(indexed(8), func(x *api.Table) { x.Indexes[at].Columns = nil }))
	}
	may(t, greatest(strings.Repeat("g", 32)))
}

func TestColumnsOfAnIndex(t *testing.T) {
	for at := range 3 {
		for n := range 4 {
			may(t, with(indexed(3), func(x *api.Table) { x.Indexes[at].Columns = []int{n} }))
			may(t, with(indexed(3), func(x *api.Table) { x.Indexes[at].Columns = []int{n, n} }))
			may(t, with(indexed(3), func(x *api.Table) { x.Indexes[at].Columns = []int{3, n, 0, n} }))
		}
		for _, n := range []int{-1, -2, 4, 5, 31, 32, 1 << 32, math.MinInt, math.MinInt + 1, math.MaxInt - 1, math.MaxInt} {
			mayNot(t, with(indexed(3), func(x *api.Table) { x.Indexes[at].Columns = []int{n} }))
			mayNot(t, with(indexed(3), func(x *api.Table) { x.Indexes[at].Columns = []int{n, 0, 1} }))
			mayNot(t, with(indexed(3), func(x *api.Table) { x.Indexes[at].Columns = []int{0, n, 1} }))
			mayNot(t, with(indexed(3), func(x *api.Table) { x.Indexes[at].Columns = []int{0, 1, n} }))
		}
	}
}

func TestTheLastColumnOfAnIndex(t *testing.T) {
	for n := 1; n <= 32; n++ {
		may(t, with(wide(n), func(x *api.Table) { x.Indexes = []api.Index{{Name: "i", Columns: []int{n - 1}}} }))
		mayNot(t, with(wide(n), func(x *api.Table) { x.Indexes = []api.Index{{Name: "i", Columns: []int{n}}} }))
	}
}

func TestUniqueAndNot(t *testing.T) {
	for at := range 8 {
		for _, unique := range []bool{false, true} {
			may(t, with(indexed(8), func(x *api.Table) { x.Indexes[at].Unique = unique }))
		}
	}
}

func TestNoSchema(t *testing.T) {
	mayNot(t, api.Table{})
	mayNot(t, api.Table{Name: "t"})
	mayNot(t, api.Table{Name: "t", Key: 1})
	mayNot(t, api.Table{Name: "t", Columns: []api.Column{{}}, Key: 1})
	mayNot(t, api.Table{Name: "t", Columns: []api.Column{{Name: "a", Kind: 1}}})
	mayNot(t, api.Table{Name: "t", Columns: []api.Column{{Name: "a", Kind: 1}}, Key: 1, Indexes: []api.Index{{}}})
	may(t, api.Table{Name: "t", Columns: []api.Column{{Name: "a", Kind: 1}}, Key: 1})
}

// 14.1: rows.

func fits(t *testing.T, x api.Table, row []api.Value, want api.Errno) {
	t.Helper()
	table, values := clone(x), slices.Clone(row)
	if e := schema.Fits(x, row); e != want {
		t.Errorf("Fits %s of %s: %d, not %d", brief(x), brief(row), e, want)
	}
	if !same(x, table) || len(row) != len(values) || fmt.Sprint(row) != fmt.Sprint(values) {
		t.Errorf("what was handed in has changed: %s of %s", brief(x), brief(row))
	}
}

func TestHowManyValues(t *testing.T) {
	for n := 1; n <= 32; n++ {
		all := append(rowOf(wide(n)), make([]api.Value, 40-n)...)
		for many := range 41 {
			want := api.ErrRow
			if many == n {
				want = api.OK
			}
			fits(t, wide(n), all[:many], want)
		}
	}
	fits(t, example(), nil, api.ErrRow)
	fits(t, example(), []api.Value{}, api.ErrRow)
	fits(t, example(), make([]api.Value, 100000), api.ErrRow)
}

func TestKindsInColumns(t *testing.T) {
	for column := 1; column <= 5; column++ {
		for kind := range 6 {
			for at := range 4 {
				x := with(wide(4), func(x *api.Table) { x.Columns[at].Kind, x.Key = column, 2 })
				row := rowOf(x)
				row[at] = sample(kind)
				want := api.ErrRow
				if kind == column || kind == 0 && at >= 2 {
					want = api.OK
				}
				fits(t, x, row, want)
			}
		}
	}
}

func TestNullsAtEachPlace(t *testing.T) {
	for _, n := range []int{1, 2, 5, 32} {
		for key := 1; key <= n; key++ {
			x := with(wide(n), func(x *api.Table) { x.Key = key })
			for at := range n {
				row := rowOf(x)
				row[at] = api.Value{}
				want := api.OK
				if at < key {
					want = api.ErrRow
				}
				fits(t, x, row, want)
			}
			row := rowOf(x)
			clear(row[key:])
			fits(t, x, row, api.OK)
			row[key-1] = api.Value{}
			fits(t, x, row, api.ErrRow)
			fits(t, x, make([]api.Value, n), api.ErrRow)
		}
	}
}

// bad are values of each kind that may not be, and some of no kind.
func bad() []api.Value {
	nan, minus := math.NaN(), math.Copysign(0, -1)
	list := []api.Value{
		{Kind: 0, N: 1}, {Kind: 0, C: 1}, {Kind: 0, S: "x"}, {Kind: 0, C: complex(minus, 0)},
		{Kind: 1, N: 2}, {Kind: 1, N: -1}, {Kind: 1, N: math.MinInt64}, {Kind: 1, C: 1i}, {Kind: 1, S: "x"},
		{Kind: 2, C: 1}, {Kind: 2, S: "x"}, {Kind: 2, C: complex(0, minus)},
		{Kind: 3, C: complex(nan, 0)}, {Kind: 3, C: complex(0, nan)}, {Kind: 3, C: 1i}, {Kind: 3, C: complex(1, minus)}, {Kind: 3, N: 1}, {Kind: 3, S: "x"},
		{Kind: 4, C: complex(nan, 0)}, {Kind: 4, C: complex(0, nan)}, {Kind: 4, N: 1}, {Kind: 4, S: "x"},
		{Kind: 5, S: strings.Repeat("x", 4097)}, {Kind: 5, S: "x", N: 1}, {Kind: 5, S: "x", C: 1},
	}
	for _, kind := range []int{-1, 6, 7, 256, 257, 1<<32 + 2, math.MinInt, math.MaxInt} {
		list = append(list, api.Value{Kind: kind}, api.Value{Kind: kind, N: 1})
	}
	return list
}

func TestValuesThatMayNotBe(t *testing.T) {
	for _, key := range []int{1, 3, 5} {
		x := with(wide(5), func(x *api.Table) { x.Key = key })
		for _, v := range bad() {
			for at := range 5 {
				row := rowOf(x)
				row[at] = v
				fits(t, x, row, api.ErrRow)
				y := with(x, func(x *api.Table) {
					if 1 <= v.Kind && v.Kind <= 5 {
						x.Columns[at].Kind = v.Kind
					}
				})
				fits(t, y, row, api.ErrRow)
			}
		}
	}
}

func TestValuesThatMayBe(t *testing.T) {
	minus, most := math.Copysign(0, -1), math.Inf(1)
	for _, v := range []api.Value{
		{Kind: 1}, {Kind: 1, N: 1},
		{Kind: 2}, {Kind: 2, N: -1}, {Kind: 2, N: math.MinInt64}, {Kind: 2, N: math.MaxInt64},
		{Kind: 3}, {Kind: 3, C: complex(minus, 0)}, {Kind: 3, C: complex(most, 0)}, {Kind: 3, C: complex(-most, 0)},
		{Kind: 4}, {Kind: 4, C: complex(minus, minus)}, {Kind: 4, C: complex(most, -most)},
		{Kind: 5}, {Kind: 5, S: "\x00\xff"}, {Kind: 5, S: strings.Repeat("x", 4096)},
	} {
		for _, key := range []int{1, 2, 3} {
			for at := range 3 {
				x := with(wide(3), func(x *api.Table) { x.Columns[at].Kind, x.Key = v.Kind, key })
				row := rowOf(x)
				row[at] = v
				fits(t, x, row, api.OK)
			}
		}
	}
}

// A schema that may not be is told ahead of all that is wrong of a row.
func TestNoSchemaGoesAheadOfRows(t *testing.T) {
	for _, x := range []api.Table{
		{}, wide(0), wide(33), indexed(9),
		with(example(), func(x *api.Table) { x.Key = 0 }), with(example(), func(x *api.Table) { x.Key = 3 }),
		with(example(), func(x *api.Table) { x.Name = "" }), with(example(), func(x *api.Table) { x.Columns[1].Kind = 0 }),
		with(example(), func(x *api.Table) { x.Columns[1].Name = "a" }), with(example(), func(x *api.Table) { x.Indexes[0].Columns[0] = 2 }),
	} {
		for _, row := range [][]api.Value{nil, {}, {{}}, {{}, {}}, rowOf(x), rowOf(example()), {{Kind: 9}}, {sample(2), {Kind: 9}}, make([]api.Value, 33), make([]api.Value, 1000)} {
			fits(t, x, row, api.ErrSchema)
		}
	}
}

// R4: nothing behind a list's length is read or written.
func TestSpareRoomIsNeitherReadNorWritten(t *testing.T) {
	roomy := func() (api.Table, []api.Value) {
		x := example()
		x.Columns = append(x.Columns, api.Column{Name: "A", Kind: 77}, api.Column{Name: "a"})[:2]
		x.Indexes = append(x.Indexes, api.Index{Name: "I", Columns: []int{-1}}, api.Index{Name: "i"})[:1]
		x.Indexes[0].Columns = append(x.Indexes[0].Columns, -9, 99)[:1]
		return x, append(rowOf(example()), api.Value{Kind: 9, N: 4}, api.Value{})[:2]
	}
	// whole is all of it with its spare room.
	whole := func(x api.Table, row []api.Value) string {
		return fmt.Sprint(x.Columns[:4], x.Indexes[:3], x.Indexes[0].Columns[:3], row[:4])
	}
	x, row := roomy()
	before := whole(x, row)
	may(t, x)
	fits(t, x, row, api.OK)
	c := schema.New()
	create(t, c, x, api.OK)
	create(t, c, x, api.ErrThere)
	found(t, c, example())
	if now := whole(x, row); now != before {
		t.Errorf("%s, not %s", now, before)
	}
}

// P1: calls end soon, whatever they are given.
func TestHugeSchemas(t *testing.T) {
	long := strings.Repeat("a", 1<<26)
	mayNot(t, plainTable(long))
	mayNot(t, with(example(), func(x *api.Table) { x.Columns[1].Name = long }))
	mayNot(t, with(example(), func(x *api.Table) { x.Indexes[0].Name = long }))
	many := make([]api.Column, 1<<17)
	for i := range many {
		many[i] = api.Column{Name: fmt.Sprint(i), Kind: 1}
	}
	mayNot(t, api.Table{Name: "t", Columns: many, Key: 1})
	indexes := make([]api.Index, 1<<17)
	for i := range indexes {
		indexes[i] = api.Index{Name: fmt.Sprint(i), Columns: []int{0}}
	}
	mayNot(t, with(example(), func(x *api.Table) { x.Indexes = indexes }))
	mayNot(t, with(example(), func(x *api.Table) { x.Indexes[0].Columns = make([]int, 1<<20) }))
}

// The limits of package api are those that the tests count by.
func TestLimits(t *testing.T) {
	if api.MaxItems != 4096 || api.MaxBytes != 262144 || api.MaxName != 32 || api.MaxRow != 32 || api.MaxText != 4096 {
		t.Errorf("MaxItems %d, MaxBytes %d, MaxName %d, MaxRow %d, MaxText %d", api.MaxItems, api.MaxBytes, api.MaxName, api.MaxRow, api.MaxText)
	}
	if api.ErrSchema != 140 || api.ErrThere != 6 || api.ErrLong != 2 || api.ErrTable != 141 || api.ErrForm != 3 || api.ErrRow != 150 {
		t.Error("errors of other numbers")
	}
	if api.VNull != 0 || api.VBool != 1 || api.VText != 5 {
		t.Error("kinds of other numbers")
	}
}

// The chapter's example.
func TestExample(t *testing.T) {
	c := schema.New()
	create(t, c, example(), api.OK)
	create(t, c, example(), api.ErrThere)
	names(t, c, "t")
	five, x := api.Value{Kind: api.VInt, N: 5}, api.Value{Kind: api.VText, S: "x"}
	fits(t, example(), []api.Value{five, {}}, api.OK)
	fits(t, example(), []api.Value{{}, x}, api.ErrRow)
	fits(t, example(), []api.Value{five}, api.ErrRow)
	mayNot(t, with(example(), func(x *api.Table) { x.Key = 0 }))
	mayNot(t, with(example(), func(x *api.Table) { x.Columns[0].Name, x.Columns[1].Name = "c", "c" }))
}
