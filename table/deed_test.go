package table_test

import (
	"fmt"
	"math"
	"slices"
	"strings"
	"testing"

	"hopper/api"
	"hopper/table"
)

// told holds that an operation comes to its rows.
func told(t *testing.T, d *table.Data, op api.Op, want ...row) {
	t.Helper()
	results, done, e := d.Apply([]api.Op{op})
	if len(results) != 1 || results[0].Code != api.OK || !done || e != api.OK {
		t.Errorf("%s: %s %t %d, not OK", brief(op), brief(results), done, e)
		return
	}
	if !sameRows(results[0].Rows, want) {
		t.Errorf("%s: %s, not %s", brief(op), brief(results[0].Rows), brief(want))
	}
}

// refused holds that an operation has that Code, beside it no rows, and that nothing has changed.
func refused(t *testing.T, d *table.Data, op api.Op, want api.Errno) {
	t.Helper()
	before := state(d)
	notDone(t, d, op, want)
	unchanged(t, d, before)
}

// notDone is refused without a look at the data.
func notDone(t *testing.T, d *table.Data, op api.Op, want api.Errno) {
	t.Helper()
	results, done, e := d.Apply([]api.Op{op})
	if len(results) != 1 || results[0].Code != want || len(results[0].Rows) != 0 || done || e != api.OK {
		t.Errorf("%s: %s %t %d, not %d", brief(op), brief(results), done, e, want)
	}
}

// three has rows of the chapter's example, one of which has null.
func three(t *testing.T, unique bool) *table.Data {
	t.Helper()
	return filled(t, example(unique), row{num(1), txt("x")}, row{num(2), txt("y")}, row{num(5), null()})
}

// good is an operation of a kind that comes to OK on three.
func good(kind int) api.Op {
	return api.Op{
		Kind: kind, Table: "t",
		Key:   map[int]row{api.OFind: {txt("x")}}[kind],
		Row:   row{num(9), txt("z")},
		Index: "i", Limit: 9,
	}
}

// 15.1, 15.2: the chapter's example.
func TestExample(t *testing.T) {
	for _, unique := range []bool{false, true} {
		d := data(t, example(unique))
		results := allDone(t, d,
			api.Op{Kind: api.OPut, Table: "t", Row: row{num(1), txt("x")}},
			api.Op{Kind: api.OPut, Table: "t", Row: row{num(2), txt("y")}},
			api.Op{Kind: api.OScan, Table: "t", Limit: 9},
		)
		if !sameRows(results[2].Rows, []row{{num(1), txt("x")}, {num(2), txt("y")}}) {
			t.Errorf("OScan: %v", results)
		}
		told(t, d, api.Op{Kind: api.OFind, Table: "t", Index: "i", Key: row{txt("y")}, Limit: 9}, row{num(2), txt("y")})
		refused(t, d, api.Op{Kind: api.OAdd, Table: "t", Key: row{num(1)}, At: 0}, api.ErrRow)
		op := api.Op{Kind: api.OPut, Table: "t", Row: row{num(3), txt("x")}}
		if unique {
			refused(t, d, op, api.ErrUnique)
		} else {
			told(t, d, op)
		}
	}
}

// The kinds, and the order of ErrProgram, ErrTable and what the operation says.

func TestKindsThatAreNone(t *testing.T) {
	d := three(t, true)
	for _, kind := range append(numbers(), 9, 10, 15, 16, 127, 128, 261, 1<<16+2, -7) {
		if 1 <= kind && kind <= 7 {
			continue
		}
		for _, name := range []string{"t", "u", ""} {
			refused(t, d, api.Op{Kind: kind, Table: name}, api.ErrProgram)
			op := good(api.OGet)
			op.Kind, op.Table, op.Key = kind, name, row{num(1)}
			refused(t, d, op, api.ErrProgram)
		}
	}
}

func TestTablesThatAreNotThere(t *testing.T) {
	d := three(t, true)
	for kind := 1; kind <= 7; kind++ {
		for _, name := range []string{"u", "", "T", "tt", "i", "a", strings.Repeat("t", 1<<16)} {
			op := good(kind)
			op.Table = name
			refused(t, d, op, api.ErrTable)
			// ErrTable goes ahead of what the operation says.
			refused(t, d, api.Op{Kind: kind, Table: name, Key: row{{Kind: 9}}, Row: row{{Kind: 9}}, At: -1, Limit: -1}, api.ErrTable)
		}
	}
}

// Fields that are not told for a kind are not looked at.
func TestFieldsThatAreNotTold(t *testing.T) {
	junk := []row{nil, {}, {null()}, {num(1)}, {txt("y")}, {num(1), txt("x")}, {num(2), txt("q")}, bad(), make(row, 5000)}
	for _, x := range []struct {
		op   api.Op
		want []row
	}{
		{api.Op{Kind: api.OGet, Key: row{num(1)}}, []row{{num(1), txt("x")}}},
		{api.Op{Kind: api.OPut, Row: row{num(1), txt("x")}}, nil},
		{api.Op{Kind: api.ODelete, Key: row{num(3)}}, nil},
		{api.Op{Kind: api.OScan, Key: row{num(2)}, To: row{num(5)}, Limit: 2}, []row{{num(2), txt("y")}}},
		{api.Op{Kind: api.OFind, Index: "i", Key: row{txt("y")}, Limit: 2}, []row{{num(2), txt("y")}}},
	} {
		d := three(t, true)
		before := state(d)
		for _, list := range junk {
			for _, n := range numbers() {
				told(t, d, litter(x.op, list, n), x.want...)
			}
		}
		unchanged(t, d, before)
	}
}

func TestFieldsThatAreNotToldForInsertAndAdd(t *testing.T) {
	d := filled(t, wide(), row{num(1), txt("x"), num(0), txt("y"), num(3)})
	for i, n := range numbers() {
		told(t, d, litter(api.Op{Kind: api.OInsert, Row: row{num(2), txt(""), null(), null(), null()}, Table: "w"}, bad(), n))
		told(t, d, api.Op{Kind: api.ODelete, Table: "w", Key: row{num(2), txt("")}}, row{num(2), txt(""), null(), null(), null()})
		op := litter(api.Op{Kind: api.OAdd, Key: row{num(1), txt("x")}, At: 2, N: 1, Table: "w"}, bad(), n)
		told(t, d, op, row{num(1), txt("x"), num(int64(i) + 1), txt("y"), num(3)})
	}
}

// litter fills the fields of an operation that are not told for its kind.
func litter(op api.Op, list row, n int) api.Op {
	if op.Table == "" {
		op.Table = "t"
	}
	has := map[int]string{
		api.OGet: "key", api.OPut: "row", api.OInsert: "row", api.ODelete: "key",
		api.OScan: "key to limit", api.OFind: "index key limit", api.OAdd: "key at n",
	}[op.Kind]
	is := func(field string) bool { return slices.Contains(strings.Fields(has), field) }
	if !is("key") {
		op.Key = list
	}
	if !is("to") {
		op.To = list
	}
	if !is("row") {
		op.Row = list
	}
	if !is("index") {
		op.Index = strings.Repeat("\x00", n&0xff)
	}
	if !is("at") {
		op.At = n
	}
	if !is("n") {
		op.N = int64(n)
	}
	if !is("limit") {
		op.Limit = n
	}
	return op
}

// Keys.

// badKeys are some that do not fit a key of a VInt and a VText.
func badKeys() []row {
	list := []row{
		nil, {}, {num(1)}, {num(1), txt("x"), num(1)}, {num(1), txt("x"), null()}, {num(1), txt("x"), num(0), txt("y"), num(3)},
		{txt("x"), num(1)}, {txt("x"), txt("x")}, {num(1), num(1)}, {null(), txt("x")}, {num(1), null()}, {null(), null()},
		{flo(1), txt("x")}, {yes(true), txt("x")}, {pair(1), txt("x")}, {num(1), flo(1)}, {num(1), yes(true)}, {num(1), pair(1)},
		make(row, 2), make(row, 32), make(row, 33), make(row, 5000),
	}
	for _, v := range bad() {
		list = append(list, row{v, txt("x")}, row{num(1), v})
	}
	return list
}

func TestKeysThatDoNotFit(t *testing.T) {
	d := filled(t, wide(), row{num(1), txt("x"), num(0), txt("y"), num(3)}, row{num(1), txt(""), null(), null(), null()})
	for _, key := range badKeys() {
		refused(t, d, api.Op{Kind: api.OGet, Table: "w", Key: key}, api.ErrRow)
		refused(t, d, api.Op{Kind: api.ODelete, Table: "w", Key: key}, api.ErrRow)
		for _, at := range []int{2, 4, 0, 3, 5, -1} {
			refused(t, d, api.Op{Kind: api.OAdd, Table: "w", Key: key, At: at, N: 1}, api.ErrRow)
		}
	}
}

// For each kind of value: a key of it, and of no other kind.
func TestKeysOfEachKind(t *testing.T) {
	for kind := 1; kind <= 5; kind++ {
		x := api.Table{Name: "k", Columns: []api.Column{{Name: "a", Kind: kind}, {Name: "n", Kind: api.VInt}}, Key: 1}
		d := filled(t, x, row{sample(kind), num(1)})
		told(t, d, api.Op{Kind: api.OGet, Table: "k", Key: row{sample(kind)}}, row{sample(kind), num(1)})
		told(t, d, api.Op{Kind: api.OAdd, Table: "k", Key: row{sample(kind)}, At: 1, N: 1}, row{sample(kind), num(2)})
		told(t, d, api.Op{Kind: api.OScan, Table: "k", Key: row{sample(kind)}, Limit: 1}, row{sample(kind), num(2)})
		for other := range 6 {
			if other == kind {
				continue
			}
			for _, op := range []int{api.OGet, api.ODelete, api.OAdd, api.OScan} {
				refused(t, d, api.Op{Kind: op, Table: "k", Key: row{sample(other)}, At: 1, Limit: 1}, api.ErrRow)
			}
			refused(t, d, api.Op{Kind: api.OScan, Table: "k", To: row{sample(other)}, Limit: 1}, api.ErrRow)
		}
		told(t, d, api.Op{Kind: api.ODelete, Table: "k", Key: row{sample(kind)}}, row{sample(kind), num(2)})
		rows(t, d, "k")
	}
}

// OGet and ODelete.

func TestGetAndDelete(t *testing.T) {
	d := three(t, true)
	for _, n := range []int64{math.MinInt64, -1, 0, 3, 4, 6, 256, math.MaxInt64} {
		before := state(d)
		told(t, d, api.Op{Kind: api.OGet, Table: "t", Key: row{num(n)}})
		told(t, d, api.Op{Kind: api.ODelete, Table: "t", Key: row{num(n)}})
		unchanged(t, d, before)
	}
	told(t, d, api.Op{Kind: api.OGet, Table: "t", Key: row{num(1)}}, row{num(1), txt("x")})
	told(t, d, api.Op{Kind: api.OGet, Table: "t", Key: row{num(5)}}, row{num(5), null()})
	told(t, d, api.Op{Kind: api.ODelete, Table: "t", Key: row{num(2)}}, row{num(2), txt("y")})
	told(t, d, api.Op{Kind: api.OGet, Table: "t", Key: row{num(2)}})
	told(t, d, api.Op{Kind: api.ODelete, Table: "t", Key: row{num(2)}})
	rows(t, d, "t", row{num(1), txt("x")}, row{num(5), null()})
	index(t, d, "t", "i", row{null(), num(5)}, row{txt("x"), num(1)})
	told(t, d, api.Op{Kind: api.OInsert, Table: "t", Row: row{num(2), txt("y")}})
	told(t, d, api.Op{Kind: api.ODelete, Table: "t", Key: row{num(1)}}, row{num(1), txt("x")})
	told(t, d, api.Op{Kind: api.ODelete, Table: "t", Key: row{num(5)}}, row{num(5), null()})
	told(t, d, api.Op{Kind: api.ODelete, Table: "t", Key: row{num(2)}}, row{num(2), txt("y")})
	rows(t, d, "t")
	index(t, d, "t", "i")
}

// -0 is another value than +0, and so another key.
func TestKeysOfZeros(t *testing.T) {
	x := api.Table{Name: "k", Columns: []api.Column{{Name: "a", Kind: api.VFloat}, {Name: "b", Kind: api.VPair}}, Key: 1, Indexes: []api.Index{{Name: "i", Columns: []int{1}, Unique: true}}}
	minus := math.Copysign(0, -1)
	d := filled(t, x, row{flo(0), pair(0)})
	told(t, d, api.Op{Kind: api.OGet, Table: "k", Key: row{flo(minus)}})
	told(t, d, api.Op{Kind: api.OInsert, Table: "k", Row: row{flo(minus), pair(complex(0, minus))}})
	told(t, d, api.Op{Kind: api.OGet, Table: "k", Key: row{flo(minus)}}, row{flo(minus), pair(complex(0, minus))})
	rows(t, d, "k", row{flo(minus), pair(complex(0, minus))}, row{flo(0), pair(0)})
	told(t, d, api.Op{Kind: api.OFind, Table: "k", Index: "i", Key: row{pair(0)}, Limit: 9}, row{flo(0), pair(0)})
	refused(t, d, api.Op{Kind: api.OPut, Table: "k", Row: row{flo(1), pair(complex(0, minus))}}, api.ErrUnique)
}

// OPut and OInsert.

// badRows are some that do not fit wide.
func badRows() []row {
	fits := func() row { return row{num(1), txt("x"), num(0), txt("y"), num(3)} }
	list := []row{nil, {}, fits()[:1], fits()[:4], append(fits(), num(1)), append(fits(), null()), make(row, 5), make(row, 33), make(row, 5000)}
	for at := range 5 {
		for _, v := range append(bad(), flo(1), yes(true), pair(1)) {
			r := fits()
			r[at] = v
			list = append(list, r)
		}
		r := fits()
		r[at] = map[int]api.Value{api.VInt: txt("x"), api.VText: num(1)}[r[at].Kind]
		list = append(list, r)
	}
	for at := range 2 {
		r := fits()
		r[at] = null()
		list = append(list, r)
	}
	return list
}

func TestRowsThatDoNotFit(t *testing.T) {
	there := row{num(1), txt("x"), num(0), txt("y"), num(3)}
	for _, d := range []*table.Data{data(t, wide()), filled(t, wide(), there), filled(t, wide(), row{num(2), txt("x"), num(0), txt("y"), num(3)})} {
		for _, r := range badRows() {
			refused(t, d, api.Op{Kind: api.OPut, Table: "w", Row: r}, api.ErrRow)
			refused(t, d, api.Op{Kind: api.OInsert, Table: "w", Row: r}, api.ErrRow)
		}
	}
}

func TestPutAndInsert(t *testing.T) {
	d := data(t, example(true))
	told(t, d, api.Op{Kind: api.OPut, Table: "t", Row: row{num(2), txt("a")}})
	told(t, d, api.Op{Kind: api.OInsert, Table: "t", Row: row{num(1), txt("b")}})
	told(t, d, api.Op{Kind: api.OPut, Table: "t", Row: row{num(2), txt("c")}})
	told(t, d, api.Op{Kind: api.OPut, Table: "t", Row: row{num(1), null()}})
	rows(t, d, "t", row{num(1), null()}, row{num(2), txt("c")})
	index(t, d, "t", "i", row{null(), num(1)}, row{txt("c"), num(2)})
	for _, s := range []api.Value{txt("c"), txt("d"), null()} {
		refused(t, d, api.Op{Kind: api.OInsert, Table: "t", Row: row{num(2), s}}, api.ErrThere)
		refused(t, d, api.Op{Kind: api.OInsert, Table: "t", Row: row{num(1), s}}, api.ErrThere)
	}
	// What was given up by a row may be another's.
	told(t, d, api.Op{Kind: api.OInsert, Table: "t", Row: row{num(3), txt("a")}})
	told(t, d, api.Op{Kind: api.OInsert, Table: "t", Row: row{num(4), txt("b")}})
	told(t, d, api.Op{Kind: api.OPut, Table: "t", Row: row{num(4), txt("b")}})
	rows(t, d, "t", row{num(1), null()}, row{num(2), txt("c")}, row{num(3), txt("a")}, row{num(4), txt("b")})
}

func TestUnique(t *testing.T) {
	d := filled(t, wide(), row{num(1), txt("x"), num(7), txt("s"), num(4)}, row{num(2), txt("x"), num(8), txt("s"), num(5)})
	for _, kind := range []int{api.OPut, api.OInsert} {
		for _, r := range []row{
			{num(1), txt("y"), num(7), txt("q"), num(4)},   // by the first unique index
			{num(1), txt(""), num(8), null(), null()},      // also by that
			{num(9), txt("x"), num(9), txt("s"), num(4)},   // by the second one
			{num(9), txt("x"), null(), txt("s"), num(5)},   // also by that
			{num(9), txt("x"), num(7), txt("s"), num(5)},   // by both, with two rows
			{num(-9), txt("xx"), num(8), txt("s"), num(5)}, // by both, with one
		} {
			refused(t, d, api.Op{Kind: kind, Table: "w", Row: r}, api.ErrUnique)
		}
	}
	// Of a row that is there: with another one, it clashes as well, but as an OInsert it is there first.
	for _, r := range []row{{num(1), txt("x"), num(8), null(), null()}, {num(1), txt("x"), num(7), txt("s"), num(5)}, {num(2), txt("x"), num(7), txt("s"), num(4)}} {
		refused(t, d, api.Op{Kind: api.OPut, Table: "w", Row: r}, api.ErrUnique)
		refused(t, d, api.Op{Kind: api.OInsert, Table: "w", Row: r}, api.ErrThere)
	}
	// What does not fit is so ahead of all.
	refused(t, d, api.Op{Kind: api.OInsert, Table: "w", Row: row{num(1), txt("x"), num(8), txt("s"), txt("5")}}, api.ErrRow)
	refused(t, d, api.Op{Kind: api.OPut, Table: "w", Row: row{num(9), txt("x"), num(8), num(1), null()}}, api.ErrRow)
	// The values of the row that is replaced are no clash.
	for _, r := range []row{{num(1), txt("x"), num(7), txt("s"), num(4)}, {num(1), txt("x"), num(7), txt("q"), num(5)}, {num(1), txt("x"), num(9), txt("s"), num(4)}} {
		told(t, d, api.Op{Kind: api.OPut, Table: "w", Row: r})
	}
	// In part the same by an index of two columns.
	told(t, d, api.Op{Kind: api.OInsert, Table: "w", Row: row{num(3), txt("x"), num(1), txt("s"), num(6)}})
	told(t, d, api.Op{Kind: api.OInsert, Table: "w", Row: row{num(4), txt("x"), num(2), txt("r"), num(4)}})
}

// A null among the values: no clash, however many rows have them.
func TestUniqueWithNull(t *testing.T) {
	d := data(t, wide())
	var want []row
	for i := range int64(4) {
		for _, r := range []row{
			{num(i), txt("a"), null(), null(), null()}, {num(i), txt("b"), null(), null(), num(4)},
			{num(i), txt("c"), null(), txt("s"), null()}, {num(i), txt("d"), num(i), txt("q"), num(i)},
		} {
			told(t, d, api.Op{Kind: api.OInsert, Table: "w", Row: r})
			told(t, d, api.Op{Kind: api.OPut, Table: "w", Row: r})
			want = append(want, r)
		}
	}
	rows(t, d, "w", want...)
	told(t, d, api.Op{Kind: api.OFind, Table: "w", Index: "u", Key: row{null()}, Limit: 3}, want[0], want[1], want[2])
}

// A unique index that names a column twice, one of the key, or all of them.
func TestUniqueByOddColumns(t *testing.T) {
	x := wide()
	x.Indexes = []api.Index{{Name: "a", Columns: []int{2, 2}, Unique: true}, {Name: "b", Columns: []int{0, 4}, Unique: true}, {Name: "c", Columns: []int{1, 0}, Unique: true}}
	d := filled(t, x, row{num(1), txt("x"), num(7), null(), num(4)})
	refused(t, d, api.Op{Kind: api.OPut, Table: "w", Row: row{num(2), txt("x"), num(7), null(), null()}}, api.ErrUnique)
	refused(t, d, api.Op{Kind: api.OPut, Table: "w", Row: row{num(1), txt("y"), null(), null(), num(4)}}, api.ErrUnique)
	told(t, d, api.Op{Kind: api.OPut, Table: "w", Row: row{num(2), txt("x"), null(), null(), num(4)}})
	told(t, d, api.Op{Kind: api.OPut, Table: "w", Row: row{num(1), txt("y"), num(8), null(), num(5)}})
	told(t, d, api.Op{Kind: api.OPut, Table: "w", Row: row{num(1), txt("x"), num(9), null(), num(4)}})
	index(t, d, "w", "a", row{null(), null(), num(2), txt("x")}, row{num(8), num(8), num(1), txt("y")}, row{num(9), num(9), num(1), txt("x")})
	index(t, d, "w", "c", row{txt("x"), num(1), num(1), txt("x")}, row{txt("x"), num(2), num(2), txt("x")}, row{txt("y"), num(1), num(1), txt("y")})
}

// A full table: as many rows as may be, with even numbers.
func full(t *testing.T) *table.Data {
	t.Helper()
	var list []row
	for i := range most {
		list = append(list, row{num(int64(2 * i)), txt(fmt.Sprint(i))})
	}
	return filled(t, example(true), list...)
}

func TestAsManyRowsAsMayBe(t *testing.T) {
	d := full(t)
	for _, n := range []int64{-1, 1, 4095, 8191, 8192, math.MaxInt64} {
		refused(t, d, api.Op{Kind: api.OPut, Table: "t", Row: row{num(n), txt("z")}}, api.ErrLong)
		refused(t, d, api.Op{Kind: api.OInsert, Table: "t", Row: row{num(n), null()}}, api.ErrLong)
	}
	// What the table says goes ahead: a row that does not fit, one that is there, one that clashes.
	refused(t, d, api.Op{Kind: api.OPut, Table: "t", Row: row{num(1), num(1)}}, api.ErrRow)
	refused(t, d, api.Op{Kind: api.OInsert, Table: "t", Row: row{num(1)}}, api.ErrRow)
	refused(t, d, api.Op{Kind: api.OInsert, Table: "t", Row: row{num(2), txt("z")}}, api.ErrThere)
	refused(t, d, api.Op{Kind: api.OPut, Table: "t", Row: row{num(1), txt("7")}}, api.ErrUnique)
	refused(t, d, api.Op{Kind: api.OInsert, Table: "t", Row: row{num(1), txt("7")}}, api.ErrUnique)
	refused(t, d, api.Op{Kind: api.OPut, Table: "t", Row: row{num(2), txt("7")}}, api.ErrUnique)
	for _, n := range []int64{0, 2, 4096, 8190} {
		told(t, d, api.Op{Kind: api.OPut, Table: "t", Row: row{num(n), txt(fmt.Sprint("z", n))}})
		told(t, d, api.Op{Kind: api.OGet, Table: "t", Key: row{num(n)}}, row{num(n), txt(fmt.Sprint("z", n))})
	}
	// Behind an ODelete there is room for one.
	told(t, d, api.Op{Kind: api.ODelete, Table: "t", Key: row{num(4)}}, row{num(4), txt("2")})
	told(t, d, api.Op{Kind: api.OInsert, Table: "t", Row: row{num(1), txt("z")}})
	refused(t, d, api.Op{Kind: api.OInsert, Table: "t", Row: row{num(4), txt("zz")}}, api.ErrLong)
	refused(t, d, api.Op{Kind: api.OPut, Table: "t", Row: row{num(4), txt("zz")}}, api.ErrLong)
	told(t, d, api.Op{Kind: api.OPut, Table: "t", Row: row{num(1), txt("zz")}})
	told(t, d, api.Op{Kind: api.ODelete, Table: "t", Key: row{num(1)}}, row{num(1), txt("zz")})
	told(t, d, api.Op{Kind: api.OPut, Table: "t", Row: row{num(4), txt("zz")}})
	refused(t, d, api.Op{Kind: api.OPut, Table: "t", Row: row{num(1), txt("z")}}, api.ErrLong)
	// Within one batch, too; and another table has room of its own.
	allDone(t, d,
		api.Op{Kind: api.ODelete, Table: "t", Key: row{num(4)}},
		api.Op{Kind: api.OInsert, Table: "t", Row: row{num(5), null()}},
		api.Op{Kind: api.ODelete, Table: "t", Key: row{num(5)}},
		api.Op{Kind: api.OPut, Table: "t", Row: row{num(7), txt("zz")}},
	)
	create(t, d, plainTable("p"), api.OK)
	told(t, d, api.Op{Kind: api.OPut, Table: "p", Row: row{num(1)}})
	if list, _ := d.Rows("t"); len(list) != most {
		t.Errorf("%d rows", len(list))
	}
}

func TestOneRowLessThanMayBe(t *testing.T) {
	for _, kind := range []int{api.OPut, api.OInsert} {
		d := full(t)
		told(t, d, api.Op{Kind: api.ODelete, Table: "t", Key: row{num(0)}}, row{num(0), txt("0")})
		told(t, d, api.Op{Kind: kind, Table: "t", Row: row{num(9999), txt("z")}})
		refused(t, d, api.Op{Kind: kind, Table: "t", Row: row{num(0), txt("0")}}, api.ErrLong)
	}
}

// OScan.

func badLimits() []int {
	return []int{0, -1, -2, -4096, most + 1, most + 2, 8192, 1 << 16, 1 << 32, 1<<32 + 1, -1 << 32, math.MinInt, math.MinInt + 1, math.MaxInt, math.MaxInt - 1}
}

// ladder has rows with keys of two values: (a, b) for a of 2, 4, 6 and b of x, y.
func ladder(t *testing.T) (*table.Data, []row) {
	t.Helper()
	var list []row
	for _, a := range []int64{2, 4, 6} {
		for _, b := range []string{"x", "y"} {
			list = append(list, row{num(a), txt(b), null(), txt(b), num(a)})
		}
	}
	x := wide()
	x.Indexes = []api.Index{{Name: "b", Columns: []int{3}}, {Name: "a", Columns: []int{4}}, {Name: "n", Columns: []int{2}}, {Name: "ab", Columns: []int{4, 3}, Unique: true}, {Name: "k", Columns: []int{1, 3, 1}}}
	return filled(t, x, list...), list
}

func TestScan(t *testing.T) {
	d, list := ladder(t)
	for _, x := range []struct {
		from, to   row
		begin, end int
	}{
		{nil, nil, 0, 6}, {row{}, row{}, 0, 6},
		// From and to keys that are there, and that are not.
		{row{num(2), txt("x")}, nil, 0, 6}, {row{num(2), txt("y")}, nil, 1, 6}, {row{num(6), txt("y")}, nil, 5, 6}, {row{num(6), txt("z")}, nil, 6, 6},
		{row{num(2), txt("")}, nil, 0, 6}, {row{num(2), txt("x\x00")}, nil, 1, 6}, {row{num(3), txt("x")}, nil, 2, 6}, {row{num(-7), txt("z")}, nil, 0, 6},
		{nil, row{num(2), txt("x")}, 0, 0}, {nil, row{num(2), txt("y")}, 0, 1}, {nil, row{num(6), txt("y")}, 0, 5}, {nil, row{num(6), txt("z")}, 0, 6},
		{nil, row{num(2), txt("")}, 0, 0}, {nil, row{num(2), txt("x\x00")}, 0, 1}, {nil, row{num(5), txt("x")}, 0, 4}, {nil, row{num(math.MaxInt64), txt("")}, 0, 6},
		{row{num(2), txt("y")}, row{num(6), txt("x")}, 1, 4}, {row{num(4), txt("x")}, row{num(4), txt("y")}, 2, 3}, {row{num(3), txt("")}, row{num(5), txt("")}, 2, 4},
		// From and to beginnings: a beginning stands ahead of what begins with it.
		{row{num(4)}, nil, 2, 6}, {row{num(5)}, nil, 4, 6}, {row{num(2)}, nil, 0, 6}, {row{num(7)}, nil, 6, 6}, {row{num(math.MinInt64)}, nil, 0, 6},
		{nil, row{num(4)}, 0, 2}, {nil, row{num(5)}, 0, 4}, {nil, row{num(2)}, 0, 0}, {nil, row{num(math.MaxInt64)}, 0, 6},
		{row{num(4)}, row{num(6)}, 2, 4}, {row{num(4)}, row{num(4), txt("y")}, 2, 3}, {row{num(4), txt("y")}, row{num(6)}, 3, 4}, {row{num(4)}, row{num(5)}, 2, 4},
		// To is not above Key.
		{row{num(4), txt("x")}, row{num(4), txt("x")}, 0, 0}, {row{num(4)}, row{num(4)}, 0, 0}, {row{num(6)}, row{num(2)}, 0, 0}, {row{num(4), txt("x")}, row{num(4)}, 0, 0}, {row{num(6), txt("z")}, row{num(2), txt("")}, 0, 0}, {row{num(9)}, row{num(8)}, 0, 0},
	} {
		want := list[x.begin:x.end]
		for _, limit := range []int{1, 2, 3, 5, 6, 7, 4095, most} {
			told(t, d, api.Op{Kind: api.OScan, Table: "w", Key: x.from, To: x.to, Limit: limit}, want[:min(limit, len(want))]...)
		}
	}
}

func TestScanOfNothing(t *testing.T) {
	d := data(t, wide())
	for _, key := range []row{nil, {num(1)}, {num(1), txt("x")}} {
		for _, to := range []row{nil, {num(1)}, {num(2), txt("x")}} {
			told(t, d, api.Op{Kind: api.OScan, Table: "w", Key: key, To: to, Limit: 1})
		}
	}
}

func TestScanOfAll(t *testing.T) {
	d := full(t)
	all, _ := d.Rows("t")
	for _, limit := range []int{1, 4095, 4096} {
		told(t, d, api.Op{Kind: api.OScan, Table: "t", Limit: limit}, all[:limit]...)
		told(t, d, api.Op{Kind: api.OScan, Table: "t", Key: row{num(8189)}, Limit: limit}, all[4095])
	}
	told(t, d, api.Op{Kind: api.OScan, Table: "t", Key: row{num(100)}, To: row{num(203)}, Limit: 4096}, all[50:102]...)
}

func TestScansThatAreRefused(t *testing.T) {
	d, _ := ladder(t)
	good := []row{nil, {num(2)}, {num(6), txt("x")}}
	for _, key := range badKeys() {
		if len(key) < 2 {
			continue // those are beginnings
		}
		for _, other := range good {
			for _, limit := range append(badLimits(), 1, most) {
				// ErrRow goes ahead of ErrRange.
				notDone(t, d, api.Op{Kind: api.OScan, Table: "w", Key: key, To: other, Limit: limit}, api.ErrRow)
				notDone(t, d, api.Op{Kind: api.OScan, Table: "w", Key: other, To: key, Limit: limit}, api.ErrRow)
			}
		}
	}
	for _, v := range append(bad(), null(), txt("x"), flo(2), yes(true), pair(2)) {
		refused(t, d, api.Op{Kind: api.OScan, Table: "w", Key: row{v}, Limit: 9}, api.ErrRow)
		refused(t, d, api.Op{Kind: api.OScan, Table: "w", To: row{v}, Limit: 9}, api.ErrRow)
	}
	for _, limit := range badLimits() {
		for _, key := range good {
			for _, to := range good {
				refused(t, d, api.Op{Kind: api.OScan, Table: "w", Key: key, To: to, Limit: limit}, api.ErrRange)
			}
		}
	}
	refused(t, data(t, wide()), api.Op{Kind: api.OScan, Table: "w"}, api.ErrRange)
}

// OFind.

func TestFind(t *testing.T) {
	d, list := ladder(t)
	for _, x := range []struct {
		index string
		key   row
		want  []row
	}{
		{"b", row{txt("x")}, []row{list[0], list[2], list[4]}}, {"b", row{txt("y")}, []row{list[1], list[3], list[5]}},
		{"b", row{txt("")}, nil}, {"b", row{txt("x\x00")}, nil}, {"b", row{txt("z")}, nil}, {"b", row{null()}, nil},
		{"a", row{num(2)}, list[:2]}, {"a", row{num(4)}, list[2:4]}, {"a", row{num(6)}, list[4:]},
		{"a", row{num(3)}, nil}, {"a", row{num(math.MinInt64)}, nil}, {"a", row{num(math.MaxInt64)}, nil}, {"a", row{null()}, nil},
		{"n", row{null()}, list}, {"n", row{num(0)}, nil},
		{"ab", row{num(4), txt("y")}, list[3:4]}, {"ab", row{num(4), txt("z")}, nil}, {"ab", row{num(5), txt("y")}, nil}, {"ab", row{null(), txt("y")}, nil}, {"ab", row{num(4), null()}, nil}, {"ab", row{null(), null()}, nil},
		{"k", row{txt("x"), txt("x"), txt("x")}, []row{list[0], list[2], list[4]}}, {"k", row{txt("x"), txt("y"), txt("x")}, nil}, {"k", row{txt("x"), txt("x"), txt("y")}, nil},
	} {
		for _, limit := range []int{1, 2, 3, 5, 6, 7, 4095, most} {
			told(t, d, api.Op{Kind: api.OFind, Table: "w", Index: x.index, Key: x.key, Limit: limit}, x.want[:min(limit, len(x.want))]...)
		}
	}
}

// Null is a value like others: it is found by all of a search's values that are null, and by no other.
func TestFindWithNull(t *testing.T) {
	x := api.Table{Name: "f", Columns: []api.Column{{Name: "a", Kind: api.VInt}, {Name: "b", Kind: api.VBool}, {Name: "c", Kind: api.VText}}, Key: 1, Indexes: []api.Index{{Name: "u", Columns: []int{2, 1}, Unique: true}}}
	list := []row{
		{num(1), null(), null()}, {num(2), yes(false), null()}, {num(3), null(), txt("x")}, {num(4), yes(false), txt("x")},
		{num(5), null(), null()}, {num(6), yes(false), null()}, {num(7), null(), txt("x")}, {num(8), yes(true), txt("x")},
	}
	d := filled(t, x, list...)
	find := func(c, b api.Value, want ...row) {
		t.Helper()
		told(t, d, api.Op{Kind: api.OFind, Table: "f", Index: "u", Key: row{c, b}, Limit: 9}, want...)
	}
	find(null(), null(), list[0], list[4])
	find(null(), yes(false), list[1], list[5])
	find(txt("x"), null(), list[2], list[6])
	find(txt("x"), yes(false), list[3])
	find(txt("x"), yes(true), list[7])
	find(null(), yes(true))
	find(txt(""), null())
	index(t, d, "f", "u",
		row{null(), null(), num(1)}, row{null(), null(), num(5)}, row{null(), yes(false), num(2)}, row{null(), yes(false), num(6)},
		row{txt("x"), null(), num(3)}, row{txt("x"), null(), num(7)}, row{txt("x"), yes(false), num(4)}, row{txt("x"), yes(true), num(8)},
	)
}

// Many rows with the same values, in order of their keys, wherever they were put in.
func TestFindOfMany(t *testing.T) {
	var list, even []row
	for i := range most {
		r := row{num(int64(i)), txt([]string{"even", "odd"}[i%2])}
		list = append(list, r)
		if i%2 == 0 {
			even = append(even, r)
		}
	}
	d := data(t, example(false))
	turned := slices.Clone(list)
	slices.Reverse(turned)
	putAll(t, d, "t", turned...)
	for _, limit := range []int{1, 2047, 2048, 2049, most} {
		told(t, d, api.Op{Kind: api.OFind, Table: "t", Index: "i", Key: row{txt("even")}, Limit: limit}, even[:min(limit, 2048)]...)
	}
}

func TestFindsThatAreRefused(t *testing.T) {
	d, _ := ladder(t)
	for _, limit := range append(badLimits(), 1, most) {
		for _, name := range []string{"", "z", "B", "a ", "w", "bb", strings.Repeat("a", 1<<12)} {
			for _, key := range []row{nil, {txt("x")}, {num(1), num(1)}, bad()} {
				// ErrNone goes ahead of ErrRow, and of ErrRange.
				notDone(t, d, api.Op{Kind: api.OFind, Table: "w", Index: name, Key: key, Limit: limit}, api.ErrNone)
			}
		}
		for _, key := range badFinds() {
			// ErrRow goes ahead of ErrRange.
			notDone(t, d, api.Op{Kind: api.OFind, Table: "w", Index: "ab", Key: key, Limit: limit}, api.ErrRow)
		}
	}
	for _, limit := range badLimits() {
		for _, key := range []row{{num(4), txt("y")}, {null(), null()}, {num(9), txt("")}} {
			refused(t, d, api.Op{Kind: api.OFind, Table: "w", Index: "ab", Key: key, Limit: limit}, api.ErrRange)
		}
	}
	refused(t, data(t, plainTable("p")), api.Op{Kind: api.OFind, Table: "p", Index: "i", Limit: 1}, api.ErrNone)
}

// badFinds are values that do not fit an index of a VInt and a VText.
func badFinds() []row {
	list := []row{
		nil, {}, {num(4)}, {null()}, {num(4), txt("y"), num(4)}, {num(4), txt("y"), null()}, {null(), null(), null()},
		{txt("y"), num(4)}, {num(4), num(4)}, {txt("y"), null()}, {null(), num(4)}, {flo(4), txt("y")}, {num(4), yes(true)}, {pair(4), null()},
		make(row, 32), make(row, 33), make(row, 5000),
	}
	for _, v := range bad() {
		list = append(list, row{v, txt("y")}, row{num(4), v}, row{null(), v}, row{v, null()})
	}
	return list
}

// OAdd.

func TestAdd(t *testing.T) {
	d := filled(t, wide(), row{num(1), txt("x"), num(7), txt("s"), num(4)}, row{num(2), txt("x"), null(), txt("r"), num(5)})
	was := int64(4)
	for _, n := range []int64{1, 0, -1, 3, -100, 1 << 40, -1 << 40, math.MaxInt64 - 5, -math.MaxInt64, math.MaxInt64 - 1, math.MinInt64} {
		was += n
		told(t, d, api.Op{Kind: api.OAdd, Table: "w", Key: row{num(1), txt("x")}, At: 4, N: n}, row{num(1), txt("x"), num(7), txt("s"), num(was)})
		told(t, d, api.Op{Kind: api.OGet, Table: "w", Key: row{num(1), txt("x")}}, row{num(1), txt("x"), num(7), txt("s"), num(was)})
	}
	told(t, d, api.Op{Kind: api.OAdd, Table: "w", Key: row{num(1), txt("x")}, At: 2, N: -9}, row{num(1), txt("x"), num(-2), txt("s"), num(was)})
	index(t, d, "w", "u", row{null(), num(2), txt("x")}, row{num(-2), num(1), txt("x")})
	index(t, d, "w", "v", row{txt("r"), num(5), num(2), txt("x")}, row{txt("s"), num(was), num(1), txt("x")})
}

// A sum that is just the least or the greatest, and beyond both.
func TestAddAtTheEdges(t *testing.T) {
	const least, greatest = math.MinInt64, math.MaxInt64
	x := api.Table{Name: "n", Columns: []api.Column{{Name: "a", Kind: api.VInt}, {Name: "b", Kind: api.VInt}}, Key: 1}
	for _, c := range []struct {
		was, n int64
		fits   bool
	}{
		{greatest - 1, 1, true}, {greatest, 0, true}, {0, greatest, true}, {-1, greatest, true}, {least, greatest, true}, {1, greatest - 1, true},
		{least + 1, -1, true}, {least, 0, true}, {0, least, true}, {greatest, least, true}, {-1, least + 1, true}, {1, least, true},
		{greatest, 1, false}, {1, greatest, false}, {greatest, greatest, false}, {2, greatest - 1, false},
		{least, -1, false}, {-1, least, false}, {least, least, false}, {-2, least + 1, false},
	} {
		d := filled(t, x, row{num(1), num(c.was)})
		op := api.Op{Kind: api.OAdd, Table: "n", Key: row{num(1)}, At: 1, N: c.n}
		if c.fits {
			told(t, d, op, row{num(1), num(c.was + c.n)})
			rows(t, d, "n", row{num(1), num(c.was + c.n)})
		} else {
			refused(t, d, op, api.ErrRange)
		}
	}
}

func TestAddToColumns(t *testing.T) {
	for key := 1; key <= 6; key++ {
		x := kinds(key)
		d := filled(t, x, rowOf(x))
		for _, at := range append(numbers(), 9, 10, 11, 12, -3, -5, 1<<32+2, 1<<32+6) {
			op := api.Op{Kind: api.OAdd, Table: "k", Key: rowOf(x)[:key], At: at, N: 1}
			if at >= key && at < len(x.Columns) && x.Columns[at].Kind == api.VInt {
				want := rowOf(x)
				want[at].N++
				told(t, d, op, want)
				op.N = -1
				told(t, d, op, rowOf(x))
				continue
			}
			refused(t, d, op, api.ErrRow)
		}
	}
	// The last column.
	d := filled(t, wide(), row{num(1), txt("x"), num(7), txt("s"), num(4)})
	told(t, d, api.Op{Kind: api.OAdd, Table: "w", Key: row{num(1), txt("x")}, At: 4, N: 1}, row{num(1), txt("x"), num(7), txt("s"), num(5)})
	refused(t, d, api.Op{Kind: api.OAdd, Table: "w", Key: row{num(1), txt("x")}, At: 5, N: 1}, api.ErrRow)
	// A table that is all key.
	p := filled(t, plainTable("p"), row{num(1)})
	for _, at := range numbers() {
		refused(t, p, api.Op{Kind: api.OAdd, Table: "p", Key: row{num(1)}, At: at}, api.ErrRow)
	}
}

// The order of an OAdd's errors.
func TestAddsThatAreRefused(t *testing.T) {
	d := filled(t, wide(),
		row{num(1), txt("x"), num(7), txt("s"), num(4)},
		row{num(2), txt("x"), num(8), txt("s"), num(5)},
		row{num(3), txt("x"), null(), null(), null()},
		row{num(4), txt("x"), num(math.MaxInt64), txt("s"), num(math.MinInt64)},
	)
	add := func(key row, at int, n int64) api.Op {
		return api.Op{Kind: api.OAdd, Table: "w", Key: key, At: at, N: n}
	}
	there := func(n int64) row { return row{num(n), txt("x")} }
	// At is looked at ahead of whether there is a row.
	for _, at := range []int{0, 1, 3, 5, -1, math.MinInt, math.MaxInt} {
		refused(t, d, add(there(9), at, 1), api.ErrRow)
		refused(t, d, add(there(3), at, 1), api.ErrRow)
		refused(t, d, add(there(4), at, 1), api.ErrRow)
	}
	for _, n := range []int64{0, 1, -1, math.MaxInt64, math.MinInt64} {
		refused(t, d, add(there(9), 2, n), api.ErrNone)
		refused(t, d, add(row{num(1), txt("y")}, 4, n), api.ErrNone)
		refused(t, d, add(there(3), 2, n), api.ErrRow)
		refused(t, d, add(there(3), 4, n), api.ErrRow)
	}
	refused(t, d, add(there(4), 2, 1), api.ErrRange)
	refused(t, d, add(there(4), 4, -1), api.ErrRange)
	refused(t, d, add(there(1), 2, 1), api.ErrUnique)
	refused(t, d, add(there(1), 4, 1), api.ErrUnique)
	refused(t, d, add(there(2), 2, -1), api.ErrUnique)
	refused(t, d, add(there(2), 2, math.MaxInt64-8), api.ErrUnique)
	// What does not clash: nothing is raised, or what comes of it is nobody's.
	told(t, d, add(there(1), 2, 0), row{num(1), txt("x"), num(7), txt("s"), num(4)})
	told(t, d, add(there(1), 2, 2), row{num(1), txt("x"), num(9), txt("s"), num(4)})
	told(t, d, add(there(2), 2, -1), row{num(2), txt("x"), num(7), txt("s"), num(5)})
	told(t, d, api.Op{Kind: api.OPut, Table: "w", Row: row{num(5), txt("x"), null(), null(), num(5)}})
	told(t, d, add(row{num(5), txt("x")}, 4, -1), row{num(5), txt("x"), null(), null(), num(4)})
}

// A full table is no hindrance to what replaces a row.
func TestAddWhenItIsFull(t *testing.T) {
	x := api.Table{Name: "n", Columns: []api.Column{{Name: "a", Kind: api.VInt}, {Name: "b", Kind: api.VInt}}, Key: 1}
	var list []row
	for i := range int64(most) {
		list = append(list, row{num(i), num(i)})
	}
	d := filled(t, x, list...)
	told(t, d, api.Op{Kind: api.OAdd, Table: "n", Key: row{num(4000)}, At: 1, N: 1}, row{num(4000), num(4001)})
	refused(t, d, api.Op{Kind: api.OAdd, Table: "n", Key: row{num(4096)}, At: 1, N: 1}, api.ErrNone)
}
