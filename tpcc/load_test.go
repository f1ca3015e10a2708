package tpcc_test

import (
	"fmt"
	"math"
	"slices"
	"testing"

	"hopper/api"
	"hopper/table"
	"hopper/tpcc"
)

// 23.1: Tables and Load.

// schemas are the chapter's table, written out.
func schemas() []api.Table {
	out := []api.Table{}
	for _, x := range []struct {
		name    string
		columns []string
		key     int
	}{
		{"house", []string{"w", "tax", "ytd"}, 1},
		{"district", []string{"w", "d", "tax", "ytd", "next"}, 2},
		{"customer", []string{"w", "d", "c", "off", "balance", "paid", "times"}, 3},
		{"item", []string{"i", "price"}, 1},
		{"stock", []string{"w", "i", "left", "sold", "orders"}, 2},
		{"orders", []string{"w", "d", "o", "c", "lines", "carrier"}, 3},
		{"fresh", []string{"w", "d", "o"}, 3},
		{"line", []string{"w", "d", "o", "n", "i", "from", "many", "amount"}, 4},
	} {
		y := api.Table{Name: x.name, Key: x.key}
		for _, c := range x.columns {
			y.Columns = append(y.Columns, api.Column{Name: c, Kind: api.VInt})
		}
		out = append(out, y)
	}
	return out
}

func sameSchema(a, b api.Table) bool {
	return a.Name == b.Name && a.Key == b.Key && slices.Equal(a.Columns, b.Columns) && len(a.Indexes) == 0 && len(b.Indexes) == 0
}

func TestTables(t *testing.T) {
	for range 2 {
		if l := tpcc.Tables(); !slices.EqualFunc(l, schemas(), sameSchema) {
			t.Error(l)
		}
	}
}

// What is told is nobody else's: it may be written over.
func TestTablesAreNew(t *testing.T) {
	d := load(t, 1, 1, 1, 1)
	l := tpcc.Tables()
	for i := range l {
		columns := l[i].Columns[:cap(l[i].Columns)]
		for k := range columns {
			columns[k] = api.Column{Name: "x", Kind: api.VText}
		}
		indexes := l[i].Indexes[:cap(l[i].Indexes)]
		for k := range indexes {
			indexes[k] = api.Index{Name: "x"}
		}
		l[i].Name, l[i].Key, l[i].Indexes = "x", 9, []api.Index{{Name: "y"}}
		for k, other := range l {
			if k > i && !sameSchema(other, schemas()[k]) {
				t.Error("Tables share memory:", i, k)
			}
		}
	}
	if l := tpcc.Tables(); !slices.EqualFunc(l, schemas(), sameSchema) {
		t.Error(l)
	}
	sounds(t, d, api.OK)
	tells(t, d, "pay", []int64{1, 1, 1, 5}, []int64{-5})
	if e := tpcc.Load(table.New(), 1, 1, 1, 1); e != api.OK {
		t.Error(e)
	}
}

// loadedRows are what the chapter says, row by row; Rows puts them in order.
func loadedRows(t *testing.T, houses, districts, customers, items int64) tables {
	t.Helper()
	d := table.New()
	for _, x := range schemas() {
		d.Create(x)
	}
	for w := int64(1); w <= houses; w++ {
		put(t, d, "house", w, 100*w, 0)
		for i := int64(1); i <= districts; i++ {
			put(t, d, "district", w, i, 50*i, 0, 1)
			for c := int64(1); c <= customers; c++ {
				put(t, d, "customer", w, i, c, 100*c, 0, 0, 0)
			}
		}
		for i := int64(1); i <= items; i++ {
			put(t, d, "item", i, 100*i+1)
			put(t, d, "stock", w, i, 50, 0, 0)
		}
	}
	return all(d)
}

func TestLoadWrittenOut(t *testing.T) {
	d := load(t, 2, 2, 2, 2)
	has(t, d, "house", []int64{1, 100, 0}, []int64{2, 200, 0})
	has(t, d, "district", []int64{1, 1, 50, 0, 1}, []int64{1, 2, 100, 0, 1}, []int64{2, 1, 50, 0, 1}, []int64{2, 2, 100, 0, 1})
	has(t, d, "customer",
		[]int64{1, 1, 1, 100, 0, 0, 0}, []int64{1, 1, 2, 200, 0, 0, 0}, []int64{1, 2, 1, 100, 0, 0, 0}, []int64{1, 2, 2, 200, 0, 0, 0},
		[]int64{2, 1, 1, 100, 0, 0, 0}, []int64{2, 1, 2, 200, 0, 0, 0}, []int64{2, 2, 1, 100, 0, 0, 0}, []int64{2, 2, 2, 200, 0, 0, 0})
	has(t, d, "item", []int64{1, 101}, []int64{2, 201})
	has(t, d, "stock", []int64{1, 1, 50, 0, 0}, []int64{1, 2, 50, 0, 0}, []int64{2, 1, 50, 0, 0}, []int64{2, 2, 50, 0, 0})
	for _, name := range []string{"orders", "fresh", "line"} {
		has(t, d, name)
	}
}

// Each number at both ends, and within.
func TestLoadSizes(t *testing.T) {
	for _, x := range [][4]int{{1, 1, 1, 1}, {5, 1, 1, 1}, {1, 5, 1, 1}, {1, 1, 50, 1}, {1, 1, 1, 50}, {2, 3, 4, 5}, {5, 4, 3, 2}, {4, 5, 49, 48}, {5, 5, 50, 50}} {
		d := load(t, x[0], x[1], x[2], x[3])
		for _, y := range schemas() {
			if own, e := d.Schema(y.Name); e != api.OK || !sameSchema(own, y) {
				t.Error(x, own, e)
			}
		}
		if y := differ(all(d), loadedRows(t, int64(x[0]), int64(x[1]), int64(x[2]), int64(x[3]))); y != "" {
			t.Error(x, y)
		}
		sounds(t, d, api.OK)
	}
}

func refusesLoad(t *testing.T, d *table.Data, x [4]int, want api.Errno) {
	t.Helper()
	var before tables
	if d != nil {
		before = all(d)
	}
	for range 2 {
		if e := tpcc.Load(d, x[0], x[1], x[2], x[3]); e != want {
			t.Errorf("Load of %d: %d, not %d", x, e, want)
		}
		if d != nil {
			if y := differ(all(d), before); y != "" {
				t.Errorf("Load of %d is refused, but: %s", x, y)
			}
		}
	}
}

func TestLoadRefused(t *testing.T) {
	for at, most := range []int{5, 5, 50, 50} {
		for _, n := range []int{0, -1, most + 1, most + 2, 1000, math.MaxInt, math.MinInt, 1<<32 + 1} {
			x := [4]int{1, 1, 1, 1}
			x[at] = n
			refusesLoad(t, table.New(), x, api.ErrRange)
			refusesLoad(t, load(t, 1, 1, 1, 1), x, api.ErrRange)
			refusesLoad(t, nil, x, api.ErrNone)
		}
	}
	refusesLoad(t, nil, [4]int{1, 1, 1, 1}, api.ErrNone)
	refusesLoad(t, load(t, 1, 1, 1, 1), [4]int{1, 1, 1, 1}, api.ErrThere)
	refusesLoad(t, load(t, 2, 3, 4, 5), [4]int{5, 5, 50, 50}, api.ErrThere)
}

// A table of one of the names, whatever its schema is.
func TestLoadWhereOneIsThere(t *testing.T) {
	for _, x := range schemas() {
		d := table.New()
		d.Create(x)
		refusesLoad(t, d, [4]int{1, 1, 1, 1}, api.ErrThere)
		refusesLoad(t, d, [4]int{1, 1, 1, 0}, api.ErrRange)
		d = table.New()
		d.Create(api.Table{Name: x.Name, Key: 1, Columns: []api.Column{{Name: "s", Kind: api.VText}}})
		putRow(t, d, x.Name, []api.Value{{Kind: api.VText, S: "x"}})
		refusesLoad(t, d, [4]int{1, 1, 1, 1}, api.ErrThere)
		d.Drop(x.Name)
		if e := tpcc.Load(d, 1, 1, 1, 1); e != api.OK {
			t.Error(x.Name, e)
		}
	}
}

func TestLoadBesideOthers(t *testing.T) {
	d := table.New()
	for _, name := range []string{"houses", "order", "a", "lines", "new"} {
		d.Create(api.Table{Name: name, Key: 1, Columns: []api.Column{{Name: "n", Kind: api.VInt}}})
		put(t, d, name, 7)
	}
	others := all(d)
	if e := tpcc.Load(d, 2, 1, 3, 2); e != api.OK {
		t.Fatal(e)
	}
	want := loadedRows(t, 2, 1, 3, 2)
	for name, rows := range others {
		want[name] = rows
	}
	if x := differ(all(d), want); x != "" {
		t.Error(x)
	}
	sounds(t, d, api.OK)
	tells(t, d, "new", []int64{2, 1, 3, 1, 1, 1}, []int64{1, 101 + 3 - 3})
	sounds(t, d, api.OK)
}

// A catalogue has room for all tables, or none is there.
func TestLoadIntoFullCatalogue(t *testing.T) {
	d := table.New()
	for i := range api.MaxItems - 8 {
		d.Create(api.Table{Name: fmt.Sprint("t", i), Key: 1, Columns: []api.Column{{Name: "n", Kind: api.VInt}}})
	}
	for i := range 9 {
		d.Create(api.Table{Name: fmt.Sprint("more", i), Key: 1, Columns: []api.Column{{Name: "n", Kind: api.VInt}}})
		refusesLoad(t, d, [4]int{1, 1, 1, 1}, api.ErrLong)
	}
	refusesLoad(t, d, [4]int{1, 6, 1, 1}, api.ErrRange)
	d.Drop("t0")
	d.Create(schemas()[7])
	refusesLoad(t, d, [4]int{1, 1, 1, 1}, api.ErrThere)
	d.Drop("line")
	for i := range 8 {
		d.Drop(fmt.Sprint("more", i))
	}
	if e := tpcc.Load(d, 1, 1, 1, 1); e != api.OK || len(d.Tables()) != api.MaxItems-1 {
		t.Error(e, len(d.Tables()))
	}
}

// Just as many tables as there is room for.
func TestLoadIntoAlmostFullCatalogue(t *testing.T) {
	d := table.New()
	for i := range api.MaxItems - 8 {
		d.Create(api.Table{Name: fmt.Sprint("t", i), Key: 1, Columns: []api.Column{{Name: "n", Kind: api.VInt}}})
	}
	if e := tpcc.Load(d, 1, 1, 1, 1); e != api.OK || len(d.Tables()) != api.MaxItems {
		t.Error(e, len(d.Tables()))
	}
	sounds(t, d, api.OK)
}
