package table_test

import (
	"fmt"
	"math"
	"math/rand"
	"reflect"
	"slices"
	"strings"
	"testing"

	"hopper/api"
	"hopper/schema"
	"hopper/table"
)

// most is how many rows a table, operations a batch, and tables the data may have.
const most = 4096

type row = []api.Value

func num(n int64) api.Value { return api.Value{Kind: api.VInt, N: n} }

func txt(s string) api.Value { return api.Value{Kind: api.VText, S: s} }

func flo(x float64) api.Value { return api.Value{Kind: api.VFloat, C: complex(x, 0)} }

func pair(c complex128) api.Value { return api.Value{Kind: api.VPair, C: c} }

func yes(is bool) api.Value {
	if is {
		return api.Value{Kind: api.VBool, N: 1}
	}
	return api.Value{Kind: api.VBool}
}

func null() api.Value { return api.Value{} }

// example is chapter 14's schema.
func example(unique bool) api.Table {
	return api.Table{
		Name:    "t",
		Columns: []api.Column{{Name: "a", Kind: api.VInt}, {Name: "b", Kind: api.VText}},
		Key:     1,
		Indexes: []api.Index{{Name: "i", Columns: []int{1}, Unique: unique}},
	}
}

// plainTable is the least that may be: one column.
func plainTable(name string) api.Table {
	return api.Table{Name: name, Columns: []api.Column{{Name: "a", Kind: api.VInt}}, Key: 1}
}

// wide has a key of two values, two unique indexes and two others, one of which has columns of the key and one of them twice.
func wide() api.Table {
	return api.Table{
		Name: "w",
		Columns: []api.Column{
			{Name: "a", Kind: api.VInt}, {Name: "b", Kind: api.VText},
			{Name: "n", Kind: api.VInt}, {Name: "s", Kind: api.VText}, {Name: "m", Kind: api.VInt},
		},
		Key: 2,
		Indexes: []api.Index{
			{Name: "u", Columns: []int{2}, Unique: true},
			{Name: "i", Columns: []int{3}},
			{Name: "v", Columns: []int{3, 4}, Unique: true},
			{Name: "j", Columns: []int{4, 1, 4}},
		},
	}
}

// kinds has columns of all kinds, the first Key ones from VBool on, and behind them all again.
func kinds(key int) api.Table {
	t := api.Table{Name: "k", Key: key}
	for i := range key + 5 {
		t.Columns = append(t.Columns, api.Column{Name: fmt.Sprint("c", i), Kind: 1 + i%5})
	}
	for i := range 5 {
		t.Indexes = append(t.Indexes, api.Index{Name: fmt.Sprint("i", i), Columns: []int{key + i}, Unique: i%2 == 0})
	}
	return t
}

// sample is a value of a kind.
func sample(kind int) api.Value {
	return []api.Value{null(), yes(true), num(1), flo(1.5), pair(1 + 2i), txt("x")}[kind]
}

// rowOf has a value of its kind in each column.
func rowOf(x api.Table) row {
	var out row
	for _, c := range x.Columns {
		out = append(out, sample(c.Kind))
	}
	return out
}

// bad are values that may not be, of all kinds and of none.
func bad() []api.Value {
	nan, minus := math.NaN(), math.Copysign(0, -1)
	return []api.Value{
		{Kind: api.VNull, N: 1}, {Kind: api.VNull, S: "x"}, {Kind: api.VNull, C: 1},
		{Kind: api.VBool, N: 2}, {Kind: api.VBool, N: -1}, {Kind: api.VBool, S: "x"},
		{Kind: api.VInt, N: 1, S: "x"}, {Kind: api.VInt, N: 1, C: 1i}, {Kind: api.VInt, C: complex(minus, 0)},
		{Kind: api.VFloat, C: complex(nan, 0)}, {Kind: api.VFloat, C: 1i}, {Kind: api.VFloat, C: complex(1, minus)}, {Kind: api.VFloat, N: 1},
		{Kind: api.VPair, C: complex(nan, 0)}, {Kind: api.VPair, C: complex(0, nan)}, {Kind: api.VPair, N: 1},
		{Kind: api.VText, S: strings.Repeat("x", 4097)}, {Kind: api.VText, S: "x", N: 1}, {Kind: api.VText, C: complex(0, minus)},
		{Kind: -1}, {Kind: 6}, {Kind: math.MinInt}, {Kind: math.MaxInt},
	}
}

// numbers are whole numbers at all edges.
func numbers() []int {
	return []int{math.MinInt, math.MinInt + 1, -1 << 32, -1 << 31, -4096, -2, -1, 0, 1, 2, 3, 4, 5, 6, 7, 8, 31, 32, 33, 255, 256, 257, 4095, 4096, 4097, 1 << 31, 1 << 32, 1<<32 + 1, math.MaxInt - 1, math.MaxInt}
}

// brief is as much of a thing as a message needs.
func brief(x any) string { return fmt.Sprintf("%.400s", fmt.Sprint(x)) }

// sameRows goes by bits, so that -0 is not +0; a nil list is an empty one (R3).
func sameRows(a, b [][]api.Value) bool {
	return slices.EqualFunc(a, b, func(a, b row) bool { return slices.EqualFunc(a, b, sameValue) })
}

func sameValue(a, b api.Value) bool {
	bits := func(c complex128) [2]uint64 {
		return [2]uint64{math.Float64bits(real(c)), math.Float64bits(imag(c))}
	}
	return a.Kind == b.Kind && a.N == b.N && a.S == b.S && bits(a.C) == bits(b.C)
}

// data has tables without rows.
func data(t *testing.T, list ...api.Table) *table.Data {
	t.Helper()
	d := table.New()
	for _, x := range list {
		create(t, d, x, api.OK)
	}
	return d
}

// filled has one table and rows, put in as they stand.
func filled(t *testing.T, x api.Table, rows ...row) *table.Data {
	t.Helper()
	d := data(t, x)
	putAll(t, d, x.Name, rows...)
	return d
}

func putAll(t *testing.T, d *table.Data, name string, rows ...row) {
	t.Helper()
	for part := range slices.Chunk(rows, most) {
		var ops []api.Op
		for _, r := range part {
			ops = append(ops, api.Op{Kind: api.OPut, Table: name, Row: r})
		}
		allDone(t, d, ops...)
	}
}

// allDone holds that a batch is done to its end, and answers its results.
func allDone(t *testing.T, d *table.Data, ops ...api.Op) []api.Result {
	t.Helper()
	results, done, e := d.Apply(ops)
	if !done || e != api.OK || len(results) != len(ops) {
		t.Fatalf("Apply of %d: %d results, %t %d: %s", len(ops), len(results), done, e, brief(results))
	}
	for i, r := range results {
		if r.Code != api.OK {
			t.Fatalf("Apply: done, but the code of %d is %d", i, r.Code)
		}
	}
	return results
}

// create holds what Create answers; if it is refused, nothing has changed.
func create(t *testing.T, d *table.Data, x api.Table, want api.Errno) {
	t.Helper()
	before := ""
	if want != api.OK {
		before = state(d)
	}
	if e := d.Create(x); e != want {
		t.Fatalf("Create %s: %d, not %d", brief(x), e, want)
	}
	if want == api.OK {
		rows(t, d, x.Name)
		return
	}
	unchanged(t, d, before)
}

func drop(t *testing.T, d *table.Data, name string) {
	t.Helper()
	if e := d.Drop(name); e != api.OK {
		t.Fatalf("Drop %.40q: %d, not OK", name, e)
	}
	notThere(t, d, name)
}

// notThere holds that no call knows the name.
func notThere(t *testing.T, d *table.Data, name string) {
	t.Helper()
	before := state(d)
	if x, e := d.Schema(name); !reflect.DeepEqual(plain(x), api.Table{}) || e != api.ErrTable {
		t.Errorf("Schema %.40q: %s %d, not ErrTable", name, brief(x), e)
	}
	if list, e := d.Rows(name); len(list) != 0 || e != api.ErrTable {
		t.Errorf("Rows %.40q: %s %d, not ErrTable", name, brief(list), e)
	}
	for _, index := range []string{"i", "", "z"} {
		if list, e := d.Index(name, index); len(list) != 0 || e != api.ErrTable {
			t.Errorf("Index %.40q: %s %d, not ErrTable", name, brief(list), e)
		}
	}
	for kind := 1; kind <= 7; kind++ {
		results, done, e := d.Apply([]api.Op{{Kind: kind, Table: name}})
		if done || e != api.OK || len(results) != 1 || results[0].Code != api.ErrTable || len(results[0].Rows) != 0 {
			t.Errorf("Apply of kind %d on %.40q: %s %t %d, not ErrTable", kind, name, brief(results), done, e)
		}
	}
	if e := d.Drop(name); e != api.ErrTable {
		t.Errorf("Drop %.40q: %d, not ErrTable", name, e)
	}
	unchanged(t, d, before)
}

func tables(t *testing.T, d *table.Data, want ...string) {
	t.Helper()
	if list := d.Tables(); !slices.Equal(list, want) {
		t.Errorf("Tables: %.300q, not %.300q", list, want)
	}
}

func found(t *testing.T, d *table.Data, want api.Table) {
	t.Helper()
	if x, e := d.Schema(want.Name); !reflect.DeepEqual(plain(x), plain(want)) || e != api.OK {
		t.Errorf("Schema %.40q: %s %d, not %s", want.Name, brief(x), e, brief(want))
	}
}

// plain has nil for empty lists, which are the same (R3).
func plain(t api.Table) api.Table {
	t.Columns = slices.Clip(append([]api.Column(nil), t.Columns...))
	t.Indexes = slices.Clip(append([]api.Index(nil), t.Indexes...))
	for i, x := range t.Indexes {
		t.Indexes[i].Columns = slices.Clip(append([]int(nil), x.Columns...))
	}
	return t
}

func rows(t *testing.T, d *table.Data, name string, want ...row) {
	t.Helper()
	if list, e := d.Rows(name); !sameRows(list, want) || e != api.OK {
		t.Errorf("Rows %.40q: %s %d, not %s", name, brief(list), e, brief(want))
	}
}

func index(t *testing.T, d *table.Data, name, index string, want ...row) {
	t.Helper()
	if list, e := d.Index(name, index); !sameRows(list, want) || e != api.OK {
		t.Errorf("Index %.40q %q: %s %d, not %s", name, index, brief(list), e, brief(want))
	}
}

// state is all that the data tell.
func state(d *table.Data) string {
	list := d.Tables()
	text := []string{fmt.Sprintf("%q", list)}
	for _, name := range list {
		x, e := d.Schema(name)
		all, f := d.Rows(name)
		text = append(text, fmt.Sprintf("%v %d %v %d", plain(x), e, all, f))
		for _, i := range x.Indexes {
			all, e := d.Index(name, i.Name)
			text = append(text, fmt.Sprintf("%v %d", all, e))
		}
	}
	return strings.Join(text, "\n")
}

func unchanged(t *testing.T, d *table.Data, before string) {
	t.Helper()
	if now := state(d); now != before {
		t.Errorf("changed: %.400s, not %.400s", now, before)
	}
}

// 15.1.

func TestNew(t *testing.T) {
	d := table.New()
	if d == nil {
		t.Fatal("New: nil")
	}
	tables(t, d)
	for _, name := range []string{"", "t", "a", "T", "\x00", strings.Repeat("a", 33)} {
		notThere(t, d, name)
	}
	if results, done, e := d.Apply(nil); len(results) != 0 || !done || e != api.OK {
		t.Errorf("Apply of nothing: %v %t %d", results, done, e)
	}
}

func TestCreateOfWhatMayNotBe(t *testing.T) {
	many := kinds(1)
	many.Indexes = append(many.Indexes, many.Indexes...)
	for _, d := range []*table.Data{table.New(), filled(t, example(false), row{num(1), txt("x")})} {
		for _, x := range []api.Table{
			{}, plainTable(""), plainTable("T"), plainTable("t "), plainTable(strings.Repeat("t", 33)), many,
			{Name: "t", Columns: example(false).Columns, Key: 0}, // of a name that may be there: what may not be is told first
			{Name: "t", Columns: example(false).Columns, Key: 3},
			{Name: "t", Columns: []api.Column{{Name: "a", Kind: 6}}, Key: 1},
			{Name: "t", Columns: []api.Column{{Name: "a", Kind: 0}}, Key: 1},
			{Name: "t", Columns: []api.Column{{Name: "a", Kind: 2}, {Name: "a", Kind: 2}}, Key: 1},
			{Name: "u", Columns: plainTable("u").Columns, Key: 1, Indexes: []api.Index{{Name: "i"}}},
			{Name: "u", Columns: plainTable("u").Columns, Key: 1, Indexes: []api.Index{{Name: "i", Columns: []int{1}}}},
		} {
			create(t, d, x, api.ErrSchema)
		}
	}
}

func TestCreateOfWhatIsThere(t *testing.T) {
	d := filled(t, example(false), row{num(1), txt("x")})
	for _, x := range []api.Table{example(false), example(true), plainTable("t")} {
		create(t, d, x, api.ErrThere)
	}
	found(t, d, example(false))
	rows(t, d, "t", row{num(1), txt("x")})
	for _, name := range []string{"tt", "s", "0", "t0", "a", "i"} {
		create(t, d, plainTable(name), api.OK)
	}
	tables(t, d, "0", "a", "i", "s", "t", "t0", "tt")
}

// Create, Drop, Tables and Schema tell what a catalogue does.
func TestTablesAreACatalogue(t *testing.T) {
	r := rand.New(rand.NewSource(151))
	d, c := table.New(), schema.New()
	seen := map[api.Errno]int{}
	for range 3000 {
		name := fmt.Sprint("n", r.Intn(12))
		switch r.Intn(3) {
		case 0:
			x := kinds(1 + r.Intn(5))
			x.Name, x.Key = name, x.Key-r.Intn(2)
			e, want := d.Create(x), c.Create(x)
			if e != want {
				t.Fatalf("Create %s: %d, not %d", brief(x), e, want)
			}
			seen[e]++
		case 1:
			e, want := d.Drop(name), c.Drop(name)
			if e != want {
				t.Fatalf("Drop %q: %d, not %d", name, e, want)
			}
			seen[e]++
		case 2:
			x, e := d.Schema(name)
			want, wantE := c.Find(name)
			if !reflect.DeepEqual(plain(x), plain(want)) || e != wantE {
				t.Fatalf("Schema %q: %s %d, not %s %d", name, brief(x), e, brief(want), wantE)
			}
		}
		tables(t, d, c.Names()...)
	}
	for _, e := range []api.Errno{api.OK, api.ErrSchema, api.ErrThere, api.ErrTable} {
		if seen[e] < 50 {
			t.Errorf("%d was told %d times alone", e, seen[e])
		}
	}
}

func TestAsManyTablesAsMayBe(t *testing.T) {
	d := table.New()
	var want []string
	for n := range most {
		want = append(want, fmt.Sprintf("n%04d", n))
	}
	for _, n := range rand.New(rand.NewSource(3)).Perm(most) {
		if e := d.Create(plainTable(want[n])); e != api.OK {
			t.Fatalf("Create %d: %d", n, e)
		}
	}
	tables(t, d, want...)
	create(t, d, plainTable("z"), api.ErrLong)
	create(t, d, plainTable("Z"), api.ErrSchema)
	create(t, d, plainTable("n0007"), api.ErrThere)
	putAll(t, d, "n0007", row{num(1)})
	drop(t, d, "n0007")
	create(t, d, plainTable("z"), api.OK)
	create(t, d, plainTable("n0007"), api.ErrLong)
	drop(t, d, "z")
	create(t, d, plainTable("n0007"), api.OK)
	tables(t, d, want...)
}

// A table that is dropped takes its rows with it, and what its indexes told.
func TestDropAndCreateAgain(t *testing.T) {
	d := data(t, example(true), plainTable("u"))
	putAll(t, d, "u", row{num(7)})
	for range 3 {
		putAll(t, d, "t", row{num(2), txt("x")}, row{num(1), txt("y")})
		drop(t, d, "t")
		tables(t, d, "u")
		create(t, d, example(true), api.OK)
		tables(t, d, "t", "u")
		rows(t, d, "t")
		index(t, d, "t", "i")
		told(t, d, api.Op{Kind: api.OGet, Table: "t", Key: row{num(2)}})
		told(t, d, api.Op{Kind: api.OFind, Table: "t", Index: "i", Key: row{txt("x")}, Limit: 9})
		told(t, d, api.Op{Kind: api.OScan, Table: "t", Limit: 9})
		putAll(t, d, "t", row{num(3), txt("x")})
		drop(t, d, "t")
		create(t, d, wide(), api.OK)
		rows(t, d, "w")
		drop(t, d, "w")
		create(t, d, plainTable("t"), api.OK)
		found(t, d, plainTable("t"))
		putAll(t, d, "t", row{num(1)})
		drop(t, d, "t")
		create(t, d, example(true), api.OK)
	}
	rows(t, d, "u", row{num(7)})
}

func TestNamesThatAreNotThere(t *testing.T) {
	d := filled(t, example(false), row{num(1), txt("x")})
	for _, name := range []string{"", "T", "tt", "t ", " t", "t\x00", "a", "b", "i", strings.Repeat("t", 32), strings.Repeat("t", 33), strings.Repeat("t", 1<<20)} {
		notThere(t, d, name)
	}
	for _, name := range []string{"", "I", "ii", "i ", "j", "a", "b", "t", "i\x00", strings.Repeat("i", 1<<20)} {
		if list, e := d.Index("t", name); len(list) != 0 || e != api.ErrNone {
			t.Errorf("Index %.40q: %s %d, not ErrNone", name, brief(list), e)
		}
		if list, e := d.Index("x", name); len(list) != 0 || e != api.ErrTable {
			t.Errorf("Index of no table %.40q: %s %d, not ErrTable", name, brief(list), e)
		}
	}
	if list, e := data(t, plainTable("p")).Index("p", "i"); len(list) != 0 || e != api.ErrNone {
		t.Errorf("Index of a table without indexes: %s %d", brief(list), e)
	}
}

func TestRowsInOrder(t *testing.T) {
	d := data(t, plainTable("p"))
	rows(t, d, "p")
	putAll(t, d, "p", row{num(5)})
	rows(t, d, "p", row{num(5)})
	list := []int64{math.MinInt64, math.MinInt64 + 1, -1 << 40, -256, -1, 0, 1, 5, 255, 256, 1 << 31, 1 << 40, math.MaxInt64 - 1, math.MaxInt64}
	var want []row
	for _, n := range list {
		want = append(want, row{num(n)})
	}
	for seed := range int64(10) {
		d := data(t, plainTable("p"))
		for _, n := range rand.New(rand.NewSource(seed)).Perm(len(want)) {
			putAll(t, d, "p", want[n])
		}
		rows(t, d, "p", want...)
	}
}

// Keys of all kinds stand as chapter 4 says.
func TestRowsInOrderOfAllKinds(t *testing.T) {
	minus, inf := math.Copysign(0, -1), math.Inf(1)
	for _, rising := range [][]api.Value{
		{yes(false), yes(true)},
		{num(-3), num(0), num(2)},
		{flo(-inf), flo(-2.5), flo(-1), flo(minus), flo(0), flo(math.SmallestNonzeroFloat64), flo(1), flo(inf)},
		{pair(complex(-1, 5)), pair(complex(minus, 1)), pair(complex(0, -inf)), pair(complex(0, minus)), pair(0), pair(1i), pair(1)},
		{txt(""), txt("\x00"), txt("\x00\x00"), txt("\x00a"), txt("\x01"), txt("a"), txt("a\x00"), txt("aa"), txt("a\xff"), txt("b"), txt("\xff")},
	} {
		x := api.Table{Name: "k", Columns: []api.Column{{Name: "a", Kind: rising[0].Kind}, {Name: "b", Kind: rising[0].Kind}, {Name: "c", Kind: rising[0].Kind}}, Key: 2, Indexes: []api.Index{{Name: "i", Columns: []int{2}}}}
		var want, falling []row
		for _, a := range rising {
			for _, b := range rising {
				want = append(want, row{a, b, null()})
				// By the index what stands in the third column comes first, null ahead of all.
				falling = append(falling, row{null(), a, b})
			}
		}
		for seed := range int64(5) {
			d := data(t, x)
			for _, n := range rand.New(rand.NewSource(seed)).Perm(len(want)) {
				putAll(t, d, "k", want[n])
			}
			rows(t, d, "k", want...)
			index(t, d, "k", "i", falling...)
		}
		d := data(t, x)
		var entries []row
		for i, v := range rising {
			putAll(t, d, "k", row{rising[len(rising)-1-i], v, v})
			entries = append(entries, row{v, rising[len(rising)-1-i], v})
		}
		index(t, d, "k", "i", entries...)
	}
}

func TestIndexInOrder(t *testing.T) {
	d := data(t, wide())
	for _, name := range []string{"u", "i", "v", "j"} {
		index(t, d, "w", name)
	}
	putAll(t, d, "w", row{num(2), txt("y"), num(7), txt("s"), num(4)})
	index(t, d, "w", "u", row{num(7), num(2), txt("y")})
	index(t, d, "w", "i", row{txt("s"), num(2), txt("y")})
	index(t, d, "w", "v", row{txt("s"), num(4), num(2), txt("y")})
	index(t, d, "w", "j", row{num(4), txt("y"), num(4), num(2), txt("y")})
	putAll(t, d, "w",
		row{num(2), txt("x"), null(), txt("s"), null()},
		row{num(1), txt("z"), null(), null(), num(4)},
		row{num(3), txt("a"), num(-1), txt("s"), num(3)},
		row{num(1), txt("a"), num(8), null(), num(4)},
	)
	rows(t, d, "w",
		row{num(1), txt("a"), num(8), null(), num(4)},
		row{num(1), txt("z"), null(), null(), num(4)},
		row{num(2), txt("x"), null(), txt("s"), null()},
		row{num(2), txt("y"), num(7), txt("s"), num(4)},
		row{num(3), txt("a"), num(-1), txt("s"), num(3)},
	)
	index(t, d, "w", "u",
		row{null(), num(1), txt("z")}, row{null(), num(2), txt("x")},
		row{num(-1), num(3), txt("a")}, row{num(7), num(2), txt("y")}, row{num(8), num(1), txt("a")},
	)
	index(t, d, "w", "i",
		row{null(), num(1), txt("a")}, row{null(), num(1), txt("z")},
		row{txt("s"), num(2), txt("x")}, row{txt("s"), num(2), txt("y")}, row{txt("s"), num(3), txt("a")},
	)
	index(t, d, "w", "v",
		row{null(), num(4), num(1), txt("a")}, row{null(), num(4), num(1), txt("z")},
		row{txt("s"), null(), num(2), txt("x")}, row{txt("s"), num(3), num(3), txt("a")}, row{txt("s"), num(4), num(2), txt("y")},
	)
	index(t, d, "w", "j",
		row{null(), txt("x"), null(), num(2), txt("x")}, row{num(3), txt("a"), num(3), num(3), txt("a")},
		row{num(4), txt("a"), num(4), num(1), txt("a")}, row{num(4), txt("y"), num(4), num(2), txt("y")}, row{num(4), txt("z"), num(4), num(1), txt("z")},
	)
	// What is put in the place of a row, or taken away, is so in all indexes.
	putAll(t, d, "w", row{num(2), txt("y"), num(9), null(), num(1)})
	told(t, d, api.Op{Kind: api.ODelete, Table: "w", Key: row{num(3), txt("a")}}, row{num(3), txt("a"), num(-1), txt("s"), num(3)})
	index(t, d, "w", "u", row{null(), num(1), txt("z")}, row{null(), num(2), txt("x")}, row{num(8), num(1), txt("a")}, row{num(9), num(2), txt("y")})
	index(t, d, "w", "i", row{null(), num(1), txt("a")}, row{null(), num(1), txt("z")}, row{null(), num(2), txt("y")}, row{txt("s"), num(2), txt("x")})
}

// greatest has rows, and entries of indexes, of as many and as long values as may be: as one text by chapter 5 its keys would be too long.
func greatest() api.Table {
	x := api.Table{Name: "g", Key: 32}
	columns := make([]int, 32)
	for i := range 32 {
		x.Columns = append(x.Columns, api.Column{Name: fmt.Sprint("c", i), Kind: api.VText})
		columns[i] = 31 - i
	}
	for i := range 8 {
		x.Indexes = append(x.Indexes, api.Index{Name: fmt.Sprint("i", i), Columns: slices.Clone(columns), Unique: i%2 == 0})
	}
	return x
}

func TestGreatestRows(t *testing.T) {
	long := func(last string) row {
		r := row{}
		for range 31 {
			r = append(r, txt(strings.Repeat("\x00", 4096)))
		}
		return append(r, txt(strings.Repeat("\x00", 4095)+last))
	}
	d := data(t, greatest())
	putAll(t, d, "g", long("c"), long("a"), long("b"), long("b"))
	rows(t, d, "g", long("a"), long("b"), long("c"))
	turned := func(last string) row {
		r := long(last)
		slices.Reverse(r)
		return append(r, long(last)...)
	}
	for i := range 8 {
		index(t, d, "g", fmt.Sprint("i", i), turned("a"), turned("b"), turned("c"))
	}
	told(t, d, api.Op{Kind: api.OGet, Table: "g", Key: long("b")}, long("b"))
	told(t, d, api.Op{Kind: api.OGet, Table: "g", Key: long("d")})
	told(t, d, api.Op{Kind: api.OScan, Table: "g", Key: long("b"), Limit: 9}, long("b"), long("c"))
	told(t, d, api.Op{Kind: api.OScan, Table: "g", Key: long("b")[:31], To: long("c"), Limit: 9}, long("a"), long("b"))
	told(t, d, api.Op{Kind: api.OFind, Table: "g", Index: "i0", Key: turned("c")[:32], Limit: 9}, long("c"))
	refused(t, d, api.Op{Kind: api.OInsert, Table: "g", Row: long("a")}, api.ErrThere)
	told(t, d, api.Op{Kind: api.ODelete, Table: "g", Key: long("b")}, long("b"))
	rows(t, d, "g", long("a"), long("c"))
}
