package tpcc_test

import (
	"math"
	"testing"

	"hopper/api"
	"hopper/table"
	"hopper/tpcc"
)

// 23.3: Sound.

// busy answers books behind some calls: orders that are brought and fresh, and customers that have paid.
func busy(t *testing.T) *table.Data {
	t.Helper()
	d := load(t, 2, 2, 2, 3)
	for _, x := range []struct {
		name string
		args []int64
	}{
		{"new", []int64{1, 1, 1, 1, 1, 2, 2, 2, 3}}, {"new", []int64{1, 1, 2, 3, 1, 1}}, {"new", []int64{1, 2, 1, 1, 1, 4, 1, 1, 5}}, {"pay", []int64{1, 1, 1, 40}}, {"bring", []int64{1, 3}},
		{"new", []int64{1, 1, 1, 3, 1, 1, 2, 1, 1, 1, 1, 1}}, {"pay", []int64{1, 2, 2, 60}}, {"pay", []int64{2, 1, 1, 5}}, {"new", []int64{2, 1, 2, 2, 1, 9}}, {"pay", []int64{1, 1, 2, 7}},
	} {
		if r, done := callOf(d, x.name, x.args); r.Code != api.OK || !done {
			t.Fatal(x, r.Code)
		}
	}
	return d
}

// These numbers are held against others.
func named(name string, column int) bool {
	switch name {
	case "house":
		return column == 2
	case "district":
		return column >= 3
	case "customer":
		return column == 4 || column == 5
	case "stock":
		return column >= 3
	case "orders":
		return column == 4
	case "line":
		return column >= 4 && column <= 6
	}
	return false
}

// One number of one row is another one. (Which customer an order has, whether it is brought, and what a line comes to is looked at below.)
func TestSoundOfOtherNumbers(t *testing.T) {
	sounds(t, busy(t), api.OK)
	for _, x := range schemas() {
		rows, _ := busy(t).Rows(x.Name)
		for at := range rows {
			for column := x.Key; column < len(x.Columns); column++ {
				if x.Name == "orders" && column != 4 || x.Name == "line" && column == 7 {
					continue
				}
				want := api.OK
				if named(x.Name, column) {
					want = api.ErrShape
				}
				for _, by := range []int64{1, -1, 1000, math.MinInt64} {
					d := busy(t)
					row := rowsAt(t, d, x.Name, at)
					row[column].N += by
					putRow(t, d, x.Name, row)
					if e := tpcc.Sound(d); e != want {
						t.Errorf("%s, the column %d of %s: %d, not %d", x.Name, column, shown([][]api.Value{row}), e, want)
					}
				}
			}
		}
	}
}

func rowsAt(t *testing.T, d *table.Data, name string, at int) []api.Value {
	t.Helper()
	rows, e := d.Rows(name)
	if e != api.OK {
		t.Fatal(e)
	}
	return rows[at]
}

// A row is not there, or there is one more.
func TestSoundOfOtherRows(t *testing.T) {
	for _, x := range []struct {
		table string
		key   []int64
		want  api.Errno
	}{
		// The greatest order of a district with others, another one, and one that is alone.
		{"orders", []int64{1, 1, 3}, api.ErrShape}, {"orders", []int64{1, 1, 2}, api.ErrShape}, {"orders", []int64{1, 2, 1}, api.ErrShape}, {"orders", []int64{2, 1, 1}, api.ErrShape},
		{"line", []int64{1, 1, 1, 1}, api.ErrShape}, {"line", []int64{1, 1, 1, 2}, api.ErrShape}, {"line", []int64{1, 1, 3, 2}, api.ErrShape}, {"line", []int64{2, 1, 1, 1}, api.ErrShape},
		// Nothing says that an order that is not brought is fresh, or that rows must be there against which nothing is held.
		{"fresh", []int64{1, 1, 2}, api.OK}, {"fresh", []int64{2, 1, 1}, api.OK},
		{"house", []int64{1}, api.OK}, {"item", []int64{1}, api.OK}, {"stock", []int64{1, 1}, api.OK},
		// A district and a customer that have paid.
		{"district", []int64{1, 1}, api.ErrShape}, {"district", []int64{2, 2}, api.OK}, {"customer", []int64{1, 1, 1}, api.ErrShape}, {"customer", []int64{2, 2, 2}, api.OK},
	} {
		d := busy(t)
		remove(t, d, x.table, x.key...)
		if e := tpcc.Sound(d); e != x.want {
			t.Errorf("without %s %d: %d, not %d", x.table, x.key, e, x.want)
		}
	}
	for _, x := range []struct {
		table string
		row   []int64
		want  api.Errno
	}{
		{"house", []int64{3, 0, 0}, api.OK}, {"house", []int64{3, 0, 1}, api.ErrShape},
		{"district", []int64{3, 1, 0, 0, 1}, api.OK}, {"district", []int64{3, 1, 0, 0, 0}, api.ErrShape}, {"district", []int64{3, 1, 0, 0, 2}, api.ErrShape}, {"district", []int64{3, 1, 0, 1, 1}, api.ErrShape}, {"district", []int64{1, 3, 7, 0, 1}, api.OK}, {"district", []int64{1, 3, 7, 5, 1}, api.ErrShape},
		{"customer", []int64{3, 1, 1, 0, 0, 0, 0}, api.OK}, {"customer", []int64{3, 1, 1, 0, -5, 5, 0}, api.OK}, {"customer", []int64{3, 1, 1, 0, 5, 5, 0}, api.ErrShape}, {"customer", []int64{1, 1, 3, 0, -5, 5, 1}, api.ErrShape}, {"customer", []int64{1, 1, 3, 9, 0, 0, 9}, api.OK}, {"customer", []int64{1, 1, 3, 9, 1, 0, 9}, api.ErrShape},
		{"item", []int64{9, 9}, api.OK}, {"item", []int64{1, -9}, api.OK},
		{"stock", []int64{9, 9, 9, 0, 0}, api.OK}, {"stock", []int64{9, 9, 9, 1, 0}, api.ErrShape}, {"stock", []int64{9, 9, 9, 0, 1}, api.ErrShape},
		{"orders", []int64{1, 1, 4, 1, 0, 0}, api.ErrShape}, {"orders", []int64{1, 1, 0, 1, 0, 0}, api.OK}, {"orders", []int64{1, 1, -9, 1, 0, 5}, api.OK}, {"orders", []int64{1, 1, 0, 1, 1, 0}, api.ErrShape}, {"orders", []int64{1, 1, 0, 1, -1, 0}, api.ErrShape}, {"orders", []int64{9, 9, 9, 9, 0, 9}, api.OK}, {"orders", []int64{9, 9, 9, 9, 1, 0}, api.ErrShape},
		// Fresh without an order, with one that is brought, and with one that is not.
		{"fresh", []int64{1, 1, 4}, api.ErrShape}, {"fresh", []int64{1, 1, 1}, api.ErrShape}, {"fresh", []int64{9, 9, 9}, api.ErrShape}, {"fresh", []int64{1, 1, 2}, api.OK}, {"fresh", []int64{1, 1, 0}, api.ErrShape},
		// A line of no order, from no stock; one of an order; one from a stock.
		{"line", []int64{9, 9, 9, 9, 9, 9, 9, 9}, api.OK}, {"line", []int64{1, 1, 3, 4, 9, 9, 9, 9}, api.ErrShape}, {"line", []int64{1, 1, 3, 0, 9, 9, 9, 9}, api.ErrShape}, {"line", []int64{1, 1, 9, 1, 9, 9, 9, 9}, api.OK}, {"line", []int64{9, 9, 9, 9, 1, 1, 0, 0}, api.ErrShape}, {"line", []int64{9, 9, 9, 9, 1, 9, 5, 0}, api.OK},
	} {
		d := busy(t)
		put(t, d, x.table, x.row...)
		if e := tpcc.Sound(d); e != x.want {
			t.Errorf("with %s %d: %d, not %d", x.table, x.row, e, x.want)
		}
	}
}

// Several changes that go together, and some that nearly do.
func TestSoundOfChangesThatGoTogether(t *testing.T) {
	for _, x := range []struct {
		name   string
		change func(d *table.Data)
		want   api.Errno
	}{
		{"a line's amount, of an order that is brought", func(d *table.Data) { setTo(t, d, "line", 7, 1, 1, 1, 1, 1) }, api.ErrShape},
		{"a line's amount, of one that is not", func(d *table.Data) { setTo(t, d, "line", 7, 1, 1, 1, 3, 1) }, api.OK},
		{"an amount goes from a line to another", func(d *table.Data) {
			setTo(t, d, "line", 7, 1, 1, 1, 1, 1)
			setTo(t, d, "line", 7, 202+603-1, 1, 1, 1, 2)
		}, api.OK},
		{"brought by another carrier", func(d *table.Data) { setTo(t, d, "orders", 5, 99, 1, 1, 1) }, api.OK},
		{"brought by one below 0", func(d *table.Data) { setTo(t, d, "orders", 5, -1, 1, 1, 1) }, api.OK},
		{"not brought any more", func(d *table.Data) { setTo(t, d, "orders", 5, 0, 1, 1, 1) }, api.ErrShape},
		{"not brought, nor owed", func(d *table.Data) { setTo(t, d, "orders", 5, 0, 1, 1, 1); setTo(t, d, "customer", 4, -40, 1, 1, 1) }, api.OK},
		{"not brought, nor owed, and fresh", func(d *table.Data) {
			setTo(t, d, "orders", 5, 0, 1, 1, 1)
			setTo(t, d, "customer", 4, -40, 1, 1, 1)
			put(t, d, "fresh", 1, 1, 1)
		}, api.OK},
		{"brought, and still fresh", func(d *table.Data) { setTo(t, d, "orders", 5, 4, 1, 1, 2); setTo(t, d, "customer", 4, 294, 1, 1, 2) }, api.ErrShape},
		{"brought", func(d *table.Data) {
			setTo(t, d, "orders", 5, 4, 1, 1, 2)
			setTo(t, d, "customer", 4, 294, 1, 1, 2)
			remove(t, d, "fresh", 1, 1, 2)
		}, api.OK},
		{"brought, and not owed", func(d *table.Data) { setTo(t, d, "orders", 5, 4, 1, 1, 2); remove(t, d, "fresh", 1, 1, 2) }, api.ErrShape},
		{"a brought order is another customer's", func(d *table.Data) { setTo(t, d, "orders", 3, 2, 1, 1, 1) }, api.ErrShape},
		{"a fresh order is another customer's", func(d *table.Data) { setTo(t, d, "orders", 3, 2, 1, 1, 3) }, api.OK},
		{"a brought order is nobody's", func(d *table.Data) { setTo(t, d, "orders", 3, 9, 1, 1, 1) }, api.ErrShape},
		{"the balance and what was paid", func(d *table.Data) {
			setTo(t, d, "customer", 4, 805-41, 1, 1, 1)
			setTo(t, d, "customer", 5, 41, 1, 1, 1)
		}, api.ErrShape},
		{"and the district's", func(d *table.Data) {
			setTo(t, d, "customer", 4, 805-41, 1, 1, 1)
			setTo(t, d, "customer", 5, 41, 1, 1, 1)
			setTo(t, d, "district", 3, 48, 1, 1)
		}, api.ErrShape},
		{"and the house's", func(d *table.Data) {
			setTo(t, d, "customer", 4, 805-41, 1, 1, 1)
			setTo(t, d, "customer", 5, 41, 1, 1, 1)
			setTo(t, d, "district", 3, 48, 1, 1)
			setTo(t, d, "house", 2, 108, 1)
		}, api.OK},
		{"what one customer paid another one did", func(d *table.Data) {
			setTo(t, d, "customer", 4, 805, 1, 1, 1)
			setTo(t, d, "customer", 5, 0, 1, 1, 1)
			setTo(t, d, "customer", 4, -47, 1, 1, 2)
			setTo(t, d, "customer", 5, 47, 1, 1, 2)
		}, api.OK},
		{"what was paid in one district was in another one", func(d *table.Data) { setTo(t, d, "district", 3, 60, 1, 1); setTo(t, d, "district", 3, 47, 1, 2) }, api.ErrShape},
		{"lines numbered from 2 on", func(d *table.Data) {
			row := rowOf(t, d, "line", 1, 1, 3, 1)
			remove(t, d, "line", 1, 1, 3, 1)
			row[3].N = 4
			putRow(t, d, "line", row)
		}, api.ErrShape},
		{"lines numbered from 0 on", func(d *table.Data) {
			row := rowOf(t, d, "line", 1, 1, 3, 3)
			remove(t, d, "line", 1, 1, 3, 3)
			row[3].N = 0
			putRow(t, d, "line", row)
		}, api.ErrShape},
		{"a line's item, and both stocks", func(d *table.Data) {
			setTo(t, d, "line", 4, 1, 1, 1, 2, 1)
			put(t, d, "stock", 1, 3, 0, 1, 1)
			put(t, d, "stock", 1, 1, 0, 13, 5)
		}, api.OK},
		{"a line's house, and both stocks", func(d *table.Data) {
			setTo(t, d, "line", 5, 2, 1, 1, 2, 1)
			put(t, d, "stock", 1, 3, 0, 1, 1)
			put(t, d, "stock", 2, 3, 0, 1, 1)
		}, api.OK},
		{"the number alone", func(d *table.Data) { put(t, d, "stock", 2, 3, 50, 0, 1) }, api.ErrShape},
	} {
		d := busy(t)
		x.change(d)
		if e := tpcc.Sound(d); e != x.want {
			t.Errorf("%s: %d, not %d", x.name, e, x.want)
		}
	}
}

// A null counts as 0.
func TestSoundNulls(t *testing.T) {
	d := load(t, 1, 1, 1, 1)
	putRow(t, d, "house", append(whole(1), null, null))
	putRow(t, d, "district", append(whole(1, 1), null, null, whole(1)[0]))
	putRow(t, d, "customer", append(whole(1, 1, 1), null, null, null, null))
	putRow(t, d, "item", append(whole(1), null))
	putRow(t, d, "stock", append(whole(1, 1), null, null, null))
	sounds(t, d, api.OK)
	set(t, d, "district", 4, null, 1, 1)
	sounds(t, d, api.ErrShape)
	// Without a customer and a number of lines, and not brought.
	putRow(t, d, "orders", append(whole(1, 1, -1), null, null, null))
	put(t, d, "fresh", 1, 1, -1)
	sounds(t, d, api.OK)
	putRow(t, d, "line", append(whole(1, 1, -1, 1), null, null, null, null))
	sounds(t, d, api.ErrShape)
	setTo(t, d, "orders", 4, 1, 1, 1, -1)
	sounds(t, d, api.OK)
	put(t, d, "stock", 0, 0, 0, 0, 0)
	sounds(t, d, api.ErrShape)
	put(t, d, "stock", 0, 0, 0, 0, 1)
	sounds(t, d, api.OK)
	remove(t, d, "fresh", 1, 1, -1)
	setTo(t, d, "orders", 5, 1, 1, 1, -1)
	setTo(t, d, "line", 7, 6, 1, 1, -1, 1)
	sounds(t, d, api.OK)
	put(t, d, "customer", 1, 1, 0, 0, 5, 0, 0)
	sounds(t, d, api.ErrShape)
	put(t, d, "customer", 1, 1, 0, 0, 6, 0, 0)
	sounds(t, d, api.OK)
}

// Numbers that 64 bits do not hold wrap.
func TestSoundWraps(t *testing.T) {
	d := load(t, 1, 2, 2, 1)
	put(t, d, "customer", 1, 1, 1, 0, math.MinInt64+1, math.MaxInt64, 0)
	sounds(t, d, api.ErrShape)
	put(t, d, "customer", 1, 1, 2, 0, -7, 7, 0)
	put(t, d, "district", 1, 1, 0, math.MinInt64+6, 1)
	sounds(t, d, api.ErrShape)
	put(t, d, "house", 1, 0, math.MinInt64+6)
	sounds(t, d, api.OK)
	put(t, d, "customer", 1, 2, 1, 0, math.MinInt64, math.MinInt64, 0)
	put(t, d, "district", 1, 2, 0, math.MinInt64, 1)
	put(t, d, "house", 1, 0, 6)
	sounds(t, d, api.OK)
	// The number behind the greatest one, and behind the least one.
	put(t, d, "orders", 1, 1, math.MaxInt64, 9, 0, 0)
	sounds(t, d, api.ErrShape)
	setTo(t, d, "district", 4, math.MinInt64, 1, 1)
	sounds(t, d, api.OK)
	put(t, d, "orders", 1, 2, math.MinInt64, 9, 0, 0)
	setTo(t, d, "district", 4, math.MinInt64+1, 1, 2)
	sounds(t, d, api.OK)
	// Lines' amounts, and how many they are.
	put(t, d, "orders", 1, 1, 1, 2, 2, 1)
	put(t, d, "line", 1, 1, 1, 1, 1, 1, math.MaxInt64, math.MaxInt64)
	put(t, d, "line", 1, 1, 1, 2, 1, 1, math.MaxInt64, math.MaxInt64)
	put(t, d, "stock", 1, 1, 50, -2, 2)
	sounds(t, d, api.ErrShape)
	put(t, d, "customer", 1, 1, 2, 0, -9, 7, 0)
	sounds(t, d, api.OK)
	put(t, d, "stock", 1, 1, 50, math.MaxInt64, 2)
	sounds(t, d, api.ErrShape)
}

// Tables with as many rows as there may be.
func TestSoundOfFullTables(t *testing.T) {
	d := load(t, 1, 1, 1, 1)
	for n := range int64(api.MaxItems) {
		put(t, d, "orders", 1, 1, n+1, 1, 1, 0)
		put(t, d, "fresh", 1, 1, n+1)
		put(t, d, "line", 1, 1, n+1, 1, 1, 1, 2, 202)
	}
	setTo(t, d, "district", 4, api.MaxItems+1, 1, 1)
	put(t, d, "stock", 1, 1, 50, 2*api.MaxItems, api.MaxItems)
	sounds(t, d, api.OK)
	setTo(t, d, "line", 6, 1, 1, 1, api.MaxItems, 1)
	sounds(t, d, api.ErrShape)
}
