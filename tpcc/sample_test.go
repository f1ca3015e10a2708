package tpcc_test

import (
	"fmt"
	"math"
	"slices"
	"testing"

	"hopper/api"
	"hopper/table"
	"hopper/tpcc"
)

const (
	great = 1000000000000000  // the greatest amount
	least = -1000000000000000 // the least one
)

var null = api.Value{}

func whole(numbers ...int64) []api.Value {
	out := []api.Value{}
	for _, n := range numbers {
		out = append(out, api.Value{Kind: api.VInt, N: n})
	}
	return out
}

// load answers new books.
func load(t *testing.T, houses, districts, customers, items int) *table.Data {
	t.Helper()
	d := table.New()
	if e := tpcc.Load(d, houses, districts, customers, items); e != api.OK {
		t.Fatal("Load:", e)
	}
	return d
}

// Others than the calls change books by these.

func putRow(t *testing.T, d *table.Data, name string, row []api.Value) {
	t.Helper()
	if r, done, e := d.Apply([]api.Op{{Kind: api.OPut, Table: name, Row: row}}); !done || e != api.OK {
		t.Fatal(name, row, r, e)
	}
}

func put(t *testing.T, d *table.Data, name string, numbers ...int64) {
	t.Helper()
	putRow(t, d, name, whole(numbers...))
}

func remove(t *testing.T, d *table.Data, name string, key ...int64) {
	t.Helper()
	r, done, e := d.Apply([]api.Op{{Kind: api.ODelete, Table: name, Key: whole(key...)}})
	if !done || e != api.OK || len(r[0].Rows) != 1 {
		t.Fatal(name, key, r, e)
	}
}

func rowOf(t *testing.T, d *table.Data, name string, key ...int64) []api.Value {
	t.Helper()
	r, done, e := d.Apply([]api.Op{{Kind: api.OGet, Table: name, Key: whole(key...)}})
	if !done || e != api.OK || len(r[0].Rows) != 1 {
		t.Fatal(name, key, r, e)
	}
	return r[0].Rows[0]
}

// set changes one value of a row that is there.
func set(t *testing.T, d *table.Data, name string, column int, v api.Value, key ...int64) {
	t.Helper()
	row := rowOf(t, d, name, key...)
	row[column] = v
	putRow(t, d, name, row)
}

func setTo(t *testing.T, d *table.Data, name string, column int, n int64, key ...int64) {
	t.Helper()
	set(t, d, name, column, whole(n)[0], key...)
}

// tables is all that data have, of tables that are not the books', too.
type tables map[string][][]api.Value

func all(d *table.Data) tables {
	out := tables{}
	for _, name := range d.Tables() {
		out[name], _ = d.Rows(name)
	}
	return out
}

func sameRows(a, b [][]api.Value) bool {
	return slices.EqualFunc(a, b, func(x, y []api.Value) bool { return slices.Equal(x, y) })
}

// differ tells the first difference.
func differ(a, b tables) string {
	for _, x := range []tables{a, b} {
		for name := range x {
			if _, there := a[name]; !there {
				return "no table " + name
			}
			if _, there := b[name]; !there {
				return "a table " + name
			}
			if !sameRows(a[name], b[name]) {
				return fmt.Sprint(name, ": ", shown(a[name]), ", not ", shown(b[name]))
			}
		}
	}
	return ""
}

// shown are rows as numbers, nulls as texts.
func shown(rows [][]api.Value) string {
	out := ""
	for at, row := range rows {
		if at == 30 {
			return out + " .."
		}
		out += "("
		for i, v := range row {
			if i > 0 {
				out += " "
			}
			switch v.Kind {
			case api.VInt:
				out += fmt.Sprint(v.N)
			case api.VNull:
				out += "null"
			default:
				out += fmt.Sprint(v)
			}
		}
		out += ")"
	}
	return out
}

func rowsOf(lists [][]int64) [][]api.Value {
	var out [][]api.Value
	for _, list := range lists {
		out = append(out, whole(list...))
	}
	return out
}

// has looks at all rows of a table.
func has(t *testing.T, d *table.Data, name string, want ...[]int64) {
	t.Helper()
	if rows, e := d.Rows(name); e != api.OK || !sameRows(rows, rowsOf(want)) {
		t.Errorf("%s: %s %d, not %s", name, shown(rows), e, shown(rowsOf(want)))
	}
}

// is looks at one row.
func is(t *testing.T, d *table.Data, name string, key int, want ...int64) {
	t.Helper()
	if row := rowOf(t, d, name, want[:key]...); !slices.Equal(row, whole(want...)) {
		t.Errorf("%s: %s, not %d", name, shown([][]api.Value{row}), want)
	}
}

// tells is a call that is done.
func tells(t *testing.T, d *table.Data, name string, args []int64, want ...[]int64) {
	t.Helper()
	r, done := tpcc.Call(d, name, whole(args...))
	if r.Code != api.OK || !done || !sameRows(r.Rows, rowsOf(want)) {
		t.Errorf("%s %d: %d %s %v, not %d", name, args, r.Code, shown(r.Rows), done, want)
	}
}

// refusesValues is a call that is refused: nothing is changed, and it is refused again.
func refusesValues(t *testing.T, d *table.Data, name string, args []api.Value, want api.Errno) {
	t.Helper()
	var before tables
	if d != nil {
		before = all(d)
	}
	for range 2 {
		if r, done := tpcc.Call(d, name, args); r.Code != want || len(r.Rows) != 0 || done {
			t.Errorf("%q %s: %d %s %v, not %d", name, shown([][]api.Value{args}), r.Code, shown(r.Rows), done, want)
		}
		if d != nil {
			if x := differ(all(d), before); x != "" {
				t.Errorf("%q %s is refused, but: %s", name, shown([][]api.Value{args}), x)
			}
		}
	}
}

func refuses(t *testing.T, d *table.Data, name string, args []int64, want api.Errno) {
	t.Helper()
	refusesValues(t, d, name, whole(args...), want)
}

// sounds looks at the books, which stay as they are.
func sounds(t *testing.T, d *table.Data, want api.Errno) {
	t.Helper()
	before := all(d)
	for range 2 {
		if e := tpcc.Sound(d); e != want {
			t.Errorf("Sound: %d, not %d", e, want)
		}
	}
	if x := differ(all(d), before); x != "" {
		t.Error("Sound changed", x)
	}
}

// args puts lists of arguments one behind the other.
func args(lists ...[]int64) []int64 { return slices.Concat(lists...) }

func edges() []int64 {
	return []int64{0, 1, -1, 2, 9, 10, 11, great, great + 1, least, least - 1, math.MaxInt64, math.MaxInt64 - 1, math.MinInt64, math.MinInt64 + 1}
}

// right are arguments that each call takes in books that were loaded with 1 of each.
func right() map[string][]int64 {
	return map[string][]int64{"new": {1, 1, 1, 1, 1, 1}, "pay": {1, 1, 1, 1}, "state": {1, 1, 1}, "bring": {1, 1}, "low": {1, 1, 1}}
}

// The chapter's example.
func TestExample(t *testing.T) {
	d := load(t, 1, 1, 1, 2)
	tells(t, d, "new", []int64{1, 1, 1, 2, 1, 3}, []int64{1, 606})
	tells(t, d, "bring", []int64{1, 7}, []int64{1, 1})
	tells(t, d, "state", []int64{1, 1, 1}, []int64{603}, []int64{1, 7, 1}, []int64{2, 1, 3, 603})
	sounds(t, d, api.OK)
}

func callOf(d *table.Data, name string, list []int64) (api.Result, bool) {
	return tpcc.Call(d, name, whole(list...))
}
