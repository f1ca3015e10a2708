package tpcc_test

import (
	"math"
	"slices"
	"testing"

	"hopper/api"
	"hopper/table"
	"hopper/tpcc"
)

// 23.2: which calls there are, what they take, and which tables are needed.

// badArgs refuses arguments by books, by data without books, and by nil.
func badArgs(t *testing.T, d *table.Data, name string, args []api.Value) {
	t.Helper()
	refusesValues(t, d, name, args, api.ErrProgram)
	refusesValues(t, table.New(), name, args, api.ErrProgram)
	refusesValues(t, nil, name, args, api.ErrProgram)
}

func TestNames(t *testing.T) {
	d := load(t, 1, 1, 1, 1)
	for name, list := range right() {
		refuses(t, nil, name, list, api.ErrProgram)
		refuses(t, table.New(), name, list, api.ErrTable)
		if r, done := tpcc.Call(d, name, whole(list...)); r.Code != api.OK || !done {
			t.Error(name, r, done)
		}
	}
	for _, name := range []string{"", "x", "New", "new ", " new", "ne", "news", "order", "pays", "pa", "PAY", "status", "stat", "brin", "brings", "deliver", "lo", "lows", "stock", "house", "new\x00"} {
		for _, list := range right() {
			badArgs(t, d, name, whole(list...))
		}
		badArgs(t, d, name, nil)
	}
}

func TestHowManyArguments(t *testing.T) {
	d := load(t, 1, 1, 1, 1)
	for name, list := range right() {
		for n := range 60 {
			more := slices.Clone(list)
			for len(more) < n {
				more = append(more, 1)
			}
			more = more[:n]
			lines := name == "new" && n%3 == 0 && n >= 6 && n <= 48
			if n == len(list) || lines {
				if r, done := tpcc.Call(d, name, whole(more...)); r.Code != api.OK || !done {
					t.Error(name, n, r, done)
				}
				continue
			}
			badArgs(t, d, name, whole(more...))
		}
		badArgs(t, d, name, nil)
		badArgs(t, d, name, whole(slices.Repeat([]int64{1}, 3000)...))
	}
	sounds(t, d, api.OK)
}

// Each argument is a whole number that may be.
func TestArgumentsThatMayNotBe(t *testing.T) {
	d := load(t, 1, 1, 1, 1)
	lists := right()
	lists["new"] = args([]int64{1, 1, 1}, slices.Repeat([]int64{1, 1, 1}, 15))
	for name, list := range lists {
		for at := range list {
			for _, v := range []api.Value{
				{}, {N: 1}, {Kind: api.VBool, N: 1}, {Kind: api.VFloat, C: 1}, {Kind: api.VPair, C: 1}, {Kind: api.VText, S: "1"},
				{Kind: 6, N: 1}, {Kind: -1, N: 1}, {Kind: 1 << 32, N: 1}, {Kind: 1<<32 + 2, N: 1},
				{Kind: api.VInt, N: 1, S: "1"}, {Kind: api.VInt, N: 1, C: 1}, {Kind: api.VInt, N: 1, C: 1i}, {Kind: api.VInt, N: 1, C: complex(math.Copysign(0, -1), 0)}, {Kind: api.VInt, N: 1, C: complex(math.NaN(), 0)},
			} {
				given := whole(list...)
				given[at] = v
				for range 2 {
					if r, done := tpcc.Call(d, name, given); r.Code != api.ErrProgram || len(r.Rows) != 0 || done {
						t.Errorf("%s, the argument %d is %v: %d %s %v", name, at, v, r.Code, shown(r.Rows), done)
					}
					if r, done := tpcc.Call(table.New(), name, given); r.Code != api.ErrProgram || done {
						t.Errorf("%s, the argument %d is %v: %d %v", name, at, v, r.Code, done)
					}
				}
			}
		}
	}
	if x := differ(all(d), loadedRows(t, 1, 1, 1, 1)); x != "" {
		t.Error(x)
	}
}

// takes tells whether a call is not refused as one that may not be.
func takes(t *testing.T, name string, list []int64, want bool) {
	t.Helper()
	if !want {
		badArgs(t, load(t, 1, 1, 1, 1), name, whole(list...))
		return
	}
	refuses(t, table.New(), name, list, api.ErrTable)
	refuses(t, nil, name, list, api.ErrProgram)
	if r, _ := tpcc.Call(load(t, 1, 1, 1, 1), name, whole(list...)); r.Code == api.ErrProgram {
		t.Errorf("%s %d: %d", name, list, r.Code)
	}
}

// Which of the arguments have bounds, and which are free.
func TestBounds(t *testing.T) {
	for name, list := range right() {
		for at := range list {
			for _, n := range append(edges(), 3, 15, 16, great-1, 1<<32+1, 1<<32) {
				given := slices.Clone(list)
				given[at] = n
				want := true
				switch {
				case name == "new" && at == 5, name == "bring" && at == 1:
					want = n >= 1 && n <= 10
				case name == "pay" && at == 3:
					want = n >= 1 && n <= great
				}
				takes(t, name, given, want)
			}
		}
	}
}

// How many of each line, wherever it stands.
func TestManyOfEachLine(t *testing.T) {
	for lines := 1; lines <= 15; lines++ {
		list := args([]int64{1, 1, 1}, slices.Repeat([]int64{1, 1, 5}, lines))
		for at := range lines {
			for n, want := range map[int64]bool{0: false, 1: true, 10: true, 11: false, -1: false, 1<<32 + 1: false} {
				given := slices.Clone(list)
				given[3+3*at+2] = n
				takes(t, "new", given, want)
			}
		}
	}
}

// Free numbers are just not there.
func TestFreeNumbersAreNotThere(t *testing.T) {
	d := load(t, 1, 1, 1, 1)
	for name, list := range right() {
		for at := range list {
			for _, n := range edges() {
				key := at < 3
				code := api.ErrNone
				switch {
				case name == "bring" || name == "low":
					key = at == 0 || name == "low" && at == 1
				case name == "new" && at == 3:
					key, code = true, api.ErrItem
				case name == "new" && at == 4:
					key = true
				}
				if key && n != 1 {
					given := slices.Clone(list)
					given[at] = n
					refuses(t, d, name, given, code)
				}
			}
		}
	}
	sounds(t, d, api.OK)
}

// others are schemas of the same name that are unlike by one thing.
func others(x api.Table) []api.Table {
	var out []api.Table
	other := func(change func(y *api.Table)) {
		y := x
		y.Columns = slices.Clone(x.Columns)
		change(&y)
		out = append(out, y)
	}
	for at := range x.Columns {
		other(func(y *api.Table) { y.Columns[at].Name += "x" })
		for _, kind := range []int{api.VBool, api.VFloat, api.VPair, api.VText} {
			other(func(y *api.Table) { y.Columns[at].Kind = kind })
		}
		if at > 0 {
			other(func(y *api.Table) { y.Columns[at], y.Columns[at-1] = y.Columns[at-1], y.Columns[at] })
		}
	}
	for key := 1; key <= len(x.Columns); key++ {
		if key != x.Key {
			other(func(y *api.Table) { y.Key = key })
		}
	}
	other(func(y *api.Table) { y.Columns = append(y.Columns, api.Column{Name: "more", Kind: api.VInt}) })
	other(func(y *api.Table) {
		y.Columns = y.Columns[:len(y.Columns)-1]
		y.Key = min(y.Key, len(y.Columns))
	})
	other(func(y *api.Table) { y.Indexes = []api.Index{{Name: "i", Columns: []int{0}}} })
	other(func(y *api.Table) { y.Indexes = []api.Index{{Name: "i", Columns: []int{1}, Unique: true}} })
	return out
}

// Data that lack one of the tables, or have another one of its name.
func TestTablesThatAreNeeded(t *testing.T) {
	refused := func(d *table.Data) {
		t.Helper()
		before := all(d)
		for name, list := range right() {
			if r, done := tpcc.Call(d, name, whole(list...)); r.Code != api.ErrTable || len(r.Rows) != 0 || done {
				t.Errorf("%s: %d %s %v", name, r.Code, shown(r.Rows), done)
			}
			// A row that is not there is told behind it.
			list = slices.Clone(list)
			list[0] = 9
			if r, _ := tpcc.Call(d, name, whole(list...)); r.Code != api.ErrTable {
				t.Error(name, r.Code)
			}
			if r, _ := tpcc.Call(d, name, whole(list[1:]...)); r.Code != api.ErrProgram {
				t.Error(name, r.Code)
			}
		}
		if e := tpcc.Sound(d); e != api.ErrTable {
			t.Error(e)
		}
		if x := differ(all(d), before); x != "" {
			t.Error(x)
		}
	}
	refused(table.New())
	for at, x := range schemas() {
		d := load(t, 1, 1, 1, 1)
		d.Drop(x.Name)
		refused(d)
		for _, y := range others(x) {
			if e := d.Create(y); e != api.OK {
				t.Fatal(y, e)
			}
			refused(d)
			d.Drop(x.Name)
		}
		// With the one that is needed all goes, unless it is a row that is missing.
		d.Create(x)
		want := api.OK
		if at < 3 {
			want = api.ErrNone
		}
		if r, _ := tpcc.Call(d, "pay", whole(1, 1, 1, 1)); r.Code != want {
			t.Error(x.Name, r.Code)
		}
	}
	if e := tpcc.Sound(nil); e != api.ErrNone {
		t.Error(e)
	}
}
