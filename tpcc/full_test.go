package tpcc_test

import (
	"slices"
	"testing"

	"hopper/api"
	"hopper/table"
)

// 23.2: tables that have as many rows as they may.

// fill puts rows of another house into a table, until it lacks so many.
func fill(t *testing.T, d *table.Data, name string, lacks int) {
	t.Helper()
	rows, _ := d.Rows(name)
	width := map[string]int{"orders": 6, "fresh": 3, "line": 8}[name]
	var ops []api.Op
	for n := len(rows); n < api.MaxItems-lacks; n++ {
		ops = append(ops, api.Op{Kind: api.OPut, Table: name, Row: whole(append([]int64{9, 9, int64(n)}, slices.Repeat([]int64{1}, width-3)...)...)})
	}
	if r, done, e := d.Apply(ops); !done || e != api.OK {
		t.Fatal(name, len(r), e)
	}
}

func TestNewIntoFullTables(t *testing.T) {
	three := []int64{1, 1, 1, 1, 1, 1, 2, 1, 1, 1, 1, 1}
	for _, x := range []struct {
		table string
		lacks int
		want  api.Errno
	}{
		{"orders", 0, api.ErrLong}, {"orders", 1, api.OK}, {"fresh", 0, api.ErrLong}, {"fresh", 1, api.OK},
		{"line", 0, api.ErrLong}, {"line", 1, api.ErrLong}, {"line", 2, api.ErrLong}, {"line", 3, api.OK}, {"line", 4, api.OK},
	} {
		d := free(t, 2)
		fill(t, d, x.table, x.lacks)
		if x.want == api.OK {
			tells(t, d, "new", three, []int64{1, 403})
			if rows, _ := d.Rows("line"); len(rows) < 3 {
				t.Error(len(rows))
			}
			continue
		}
		refuses(t, d, "new", three, x.want)
		// All else that is wrong is told ahead of it.
		refuses(t, d, "new", []int64{1, 1, 1, 1, 1, 1, 3, 1, 1, 1, 1, 1}, api.ErrItem)
		refuses(t, d, "new", []int64{1, 1, 2, 1, 1, 1, 1, 1, 1, 1, 1, 1}, api.ErrNone)
		refuses(t, d, "new", []int64{1, 1, 1, 1, 1, 11}, api.ErrProgram)
		setTo(t, d, "customer", 3, -1, 1, 1, 1)
		refuses(t, d, "new", three, api.ErrRange)
		setTo(t, d, "customer", 3, 0, 1, 1, 1)
	}
}

// The last line finds no room: nothing of all others is there.
func TestNewOfFifteenLinesIntoFullTables(t *testing.T) {
	var list []int64
	for i := range int64(15) {
		list = append(list, i+1, 1, 1)
	}
	for lacks := range 16 {
		d := free(t, 15)
		fill(t, d, "line", lacks)
		if lacks < 15 {
			refuses(t, d, "new", args([]int64{1, 1, 1}, list), api.ErrLong)
			continue
		}
		tells(t, d, "new", args([]int64{1, 1, 1}, list), []int64{1, 12015})
	}
}

// What is there already takes no room: one more is the same one.
func TestNewOverFullTables(t *testing.T) {
	for _, name := range []string{"orders", "fresh", "line"} {
		d := free(t, 2)
		row := map[string][]int64{"orders": {1, 1, 1, 7, 7, 7}, "fresh": {1, 1, 1}, "line": {1, 1, 1, 1, 7, 7, 7, 7}}[name]
		put(t, d, name, row...)
		fill(t, d, name, 0)
		tells(t, d, "new", []int64{1, 1, 1, 2, 1, 1}, []int64{1, 201})
		is(t, d, "orders", 3, 1, 1, 1, 1, 1, 0)
		is(t, d, "fresh", 3, 1, 1, 1)
		is(t, d, "line", 4, 1, 1, 1, 1, 2, 1, 1, 201)
		refuses(t, d, "new", []int64{1, 1, 1, 2, 1, 1}, api.ErrLong)
	}
}

// The other calls add no rows.
func TestOthersInFullTables(t *testing.T) {
	d := free(t, 2)
	callOf(d, "new", []int64{1, 1, 1, 1, 1, 2})
	for _, name := range []string{"orders", "fresh", "line"} {
		fill(t, d, name, 0)
	}
	tells(t, d, "pay", []int64{1, 1, 1, 2}, []int64{-2})
	tells(t, d, "low", []int64{1, 1, 49}, []int64{1})
	tells(t, d, "bring", []int64{1, 1}, []int64{1, 1})
	tells(t, d, "state", []int64{1, 1, 1}, []int64{200}, []int64{1, 1, 1}, []int64{1, 1, 2, 202})
	refuses(t, d, "new", []int64{1, 1, 1, 1, 1, 2}, api.ErrLong)
}

// Books are sound behind as many orders as there is room for, and behind those for which there is none.
func TestBooksTillTheyAreFull(t *testing.T) {
	d := load(t, 1, 1, 1, 1)
	list := args([]int64{1, 1, 1}, slices.Repeat([]int64{1, 1, 1}, 15))
	done := 0
	for {
		r, ok := callOf(d, "new", list)
		if !ok {
			if r.Code != api.ErrLong {
				t.Error(r.Code)
			}
			break
		}
		done++
	}
	if done != api.MaxItems/15 {
		t.Error(done)
	}
	refuses(t, d, "new", list, api.ErrLong)
	sounds(t, d, api.OK)
	// One row is left.
	tells(t, d, "new", []int64{1, 1, 1, 1, 1, 1}, []int64{int64(done + 1), 101 + 2 - 1})
	refuses(t, d, "new", []int64{1, 1, 1, 1, 1, 1}, api.ErrLong)
	sounds(t, d, api.OK)
	tells(t, d, "bring", []int64{1, 1}, []int64{1, 1})
	sounds(t, d, api.OK)
}

// As many districts as there may be, with an order each: more is changed than one batch of operations may hold.
func TestBringOfAllDistricts(t *testing.T) {
	d := free(t, 1)
	var ops []api.Op
	add := func(name string, numbers ...int64) {
		ops = append(ops, api.Op{Kind: api.OPut, Table: name, Row: whole(numbers...)})
	}
	var want [][]int64
	for n := range int64(api.MaxItems) {
		add("district", 1, n+1, 0, 0, 8)
		add("customer", 1, n+1, 1, 0, n, 0, 0)
		add("orders", 1, n+1, 7, 1, 1, 0)
		add("fresh", 1, n+1, 7)
		add("line", 1, n+1, 7, 1, 1, 1, 1, 3)
		want = append(want, []int64{n + 1, 7})
	}
	for part := range slices.Chunk(ops, 1000) {
		if _, done, e := d.Apply(part); !done || e != api.OK {
			t.Fatal(e)
		}
	}
	// One that is refused at the last district changes nothing in all others.
	setTo(t, d, "customer", 4, great-2, 1, api.MaxItems, 1)
	refuses(t, d, "bring", []int64{1, 9}, api.ErrRange)
	setTo(t, d, "customer", 4, api.MaxItems-1, 1, api.MaxItems, 1)
	tells(t, d, "bring", []int64{1, 9}, want...)
	has(t, d, "fresh")
	customers, _ := d.Rows("customer")
	orders, _ := d.Rows("orders")
	for n := range int64(api.MaxItems) {
		if !slices.Equal(customers[n], whole(1, n+1, 1, 0, n+3, 0, 0)) || !slices.Equal(orders[n], whole(1, n+1, 7, 1, 1, 9)) {
			t.Fatal(n, shown(customers[n:n+1]), shown(orders[n:n+1]))
		}
	}
	tells(t, d, "bring", []int64{1, 9})
}
