package table_test

import (
	"fmt"
	"math"
	"reflect"
	"slices"
	"strings"
	"testing"
	"unsafe"

	"hopper/api"
	"hopper/table"
)

func put(name string, r ...api.Value) api.Op { return api.Op{Kind: api.OPut, Table: name, Row: r} }

func insert(name string, r ...api.Value) api.Op {
	return api.Op{Kind: api.OInsert, Table: name, Row: r}
}

func get(name string, key ...api.Value) api.Op {
	return api.Op{Kind: api.OGet, Table: name, Key: key}
}

func del(name string, key ...api.Value) api.Op {
	return api.Op{Kind: api.ODelete, Table: name, Key: key}
}

func scan(name string) api.Op { return api.Op{Kind: api.OScan, Table: name, Limit: most} }

func find(name, index string, key ...api.Value) api.Op {
	return api.Op{Kind: api.OFind, Table: name, Index: index, Key: key, Limit: most}
}

func add(name string, at int, n int64, key ...api.Value) api.Op {
	return api.Op{Kind: api.OAdd, Table: name, Key: key, At: at, N: n}
}

func ok(rows ...row) api.Result { return api.Result{Rows: rows} }

func sameResults(a, b []api.Result) bool {
	return slices.EqualFunc(a, b, func(a, b api.Result) bool { return a.Code == b.Code && sameRows(a.Rows, b.Rows) })
}

// batch holds what a batch comes to. If it does not come to its end, nothing has changed.
func batch(t *testing.T, d *table.Data, ops []api.Op, done bool, want ...api.Result) {
	t.Helper()
	before := state(d)
	results, is, e := d.Apply(ops)
	if !sameResults(results, want) || is != done || e != api.OK {
		t.Errorf("Apply %s: %s %t %d, not %s %t", brief(ops), brief(results), is, e, brief(want), done)
	}
	if !done {
		unchanged(t, d, before)
	}
}

// 15.2: batches.

func TestBatchOfNothing(t *testing.T) {
	for _, d := range []*table.Data{table.New(), three(t, true)} {
		before := state(d)
		for _, ops := range [][]api.Op{nil, {}, make([]api.Op, 0, 9)} {
			batch(t, d, ops, true)
		}
		unchanged(t, d, before)
	}
}

// Each operation stands behind those ahead of it.
func TestBatchOfMany(t *testing.T) {
	d := data(t, example(true), plainTable("p"))
	batch(t, d, []api.Op{
		get("t", num(1)), put("t", num(1), txt("x")), get("t", num(1)), scan("t"), find("t", "i", txt("x")),
		del("t", num(1)), get("t", num(1)), scan("t"), find("t", "i", txt("x")),
		insert("t", num(2), txt("x")), insert("p", num(1)), put("t", num(2), txt("y")), insert("t", num(1), txt("x")),
		scan("p"), scan("t"), find("t", "i", txt("x")), put("t", num(1), null()), put("t", num(3), txt("x")), find("t", "i", null()),
	}, true,
		ok(), ok(), ok(row{num(1), txt("x")}), ok(row{num(1), txt("x")}), ok(row{num(1), txt("x")}),
		ok(row{num(1), txt("x")}), ok(), ok(), ok(),
		ok(), ok(), ok(), ok(),
		ok(row{num(1)}), ok(row{num(1), txt("x")}, row{num(2), txt("y")}), ok(row{num(1), txt("x")}), ok(), ok(), ok(row{num(1), null()}),
	)
	rows(t, d, "t", row{num(1), null()}, row{num(2), txt("y")}, row{num(3), txt("x")})
	rows(t, d, "p", row{num(1)})
}

// One row that is raised, taken away and put again in one batch.
func TestBatchOnOneRow(t *testing.T) {
	d := filled(t, wide(), row{num(1), txt("x"), num(7), txt("s"), num(4)})
	key := row{num(1), txt("x")}
	at := func(n, m int64) row { return row{num(1), txt("x"), num(n), txt("s"), num(m)} }
	ops := []api.Op{
		add("w", 2, 3, key...), add("w", 4, -4, key...), get("w", key...), add("w", 2, -10, key...), del("w", key...), get("w", key...),
		insert("w", at(5, 5)...), add("w", 2, 1, key...), put("w", at(8, 8)...), add("w", 4, 1, key...),
	}
	results := []api.Result{ok(at(10, 4)), ok(at(10, 0)), ok(at(10, 0)), ok(at(0, 0)), ok(at(0, 0)), ok(), ok(), ok(at(6, 5)), ok(), ok(at(8, 9))}
	// With one that is refused behind them all is as it was, however often the row was changed.
	for n := range len(ops) + 1 {
		failing := append(slices.Clone(ops[:n]), get("w"))
		batch(t, d, failing, false, append(slices.Clone(results[:n]), api.Result{Code: api.ErrRow})...)
	}
	rows(t, d, "w", at(7, 4))
	batch(t, d, ops, true, results...)
	rows(t, d, "w", at(8, 9))
	index(t, d, "w", "u", row{num(8), num(1), txt("x")})
}

// The first, one in the middle or the last has a Code other than OK, whichever it is.
func TestBatchesThatDoNotComeToTheirEnd(t *testing.T) {
	bads := []struct {
		op   api.Op
		code api.Errno
	}{
		{api.Op{Kind: 0, Table: "t"}, api.ErrProgram}, {api.Op{Kind: 8, Table: "t"}, api.ErrProgram}, {scan("u"), api.ErrTable}, {get("t"), api.ErrRow}, {del("t", null()), api.ErrRow},
		{put("t", num(1)), api.ErrRow}, {put("t", num(9), txt("y")), api.ErrUnique}, {insert("t", num(2), txt("q")), api.ErrThere}, {insert("t", num(9), txt("y")), api.ErrUnique},
		{api.Op{Kind: api.OScan, Table: "t"}, api.ErrRange}, {find("t", "z"), api.ErrNone}, {find("t", "i"), api.ErrRow},
		{add("t", 0, 1, num(1)), api.ErrRow}, {add("n", 1, 1, num(7)), api.ErrNone}, {add("n", 1, 1, num(2)), api.ErrRow}, {add("n", 1, math.MaxInt64, num(1)), api.ErrRange}, {add("n", 1, 1, num(3)), api.ErrUnique},
	}
	n := api.Table{Name: "n", Columns: []api.Column{{Name: "a", Kind: api.VInt}, {Name: "b", Kind: api.VInt}}, Key: 1, Indexes: []api.Index{{Name: "i", Columns: []int{1}, Unique: true}}}
	good := []api.Op{
		del("t", num(1)), put("t", num(7), txt("x")), put("t", num(5), txt("new")), insert("t", num(-7), null()),
		put("t", num(7), txt("seven")), add("n", 1, 5, num(1)), del("n", num(4)), insert("n", num(5), num(4)), scan("t"),
	}
	results := []api.Result{
		ok(row{num(1), txt("x")}), ok(), ok(), ok(), ok(), ok(row{num(1), num(6)}), ok(row{num(4), num(9)}), ok(),
		ok(row{num(-7), null()}, row{num(2), txt("y")}, row{num(5), txt("new")}, row{num(7), txt("seven")}),
	}
	d := three(t, true)
	create(t, d, n, api.OK)
	putAll(t, d, "n", row{num(1), num(1)}, row{num(2), null()}, row{num(3), num(8)}, row{num(4), num(9)}, row{num(6), num(7)})
	for _, x := range bads {
		if x.code == api.ErrUnique && x.op.Kind == api.OAdd {
			x.op.N = -1 // of 8: 7 is there throughout
		}
		for at := range len(good) + 1 {
			ops := slices.Insert(slices.Clone(good), at, x.op)
			batch(t, d, ops, false, append(slices.Clone(results[:at]), api.Result{Code: x.code})...)
		}
	}
	// What was given back in vain is told by later batches as if nothing had been.
	refused(t, d, put("t", num(7), txt("x")), api.ErrUnique)
	refused(t, d, insert("t", num(1), txt("q")), api.ErrThere)
	told(t, d, get("t", num(7)))
	told(t, d, find("t", "i", txt("seven")))
	told(t, d, find("t", "i", null()), row{num(5), null()})
	told(t, d, scan("t"), row{num(1), txt("x")}, row{num(2), txt("y")}, row{num(5), null()})
	batch(t, d, good, true, results...)
	rows(t, d, "t", row{num(-7), null()}, row{num(2), txt("y")}, row{num(5), txt("new")}, row{num(7), txt("seven")})
}

// Nothing behind the first one that is refused is looked at.
func TestNothingBehindIsDone(t *testing.T) {
	d := three(t, true)
	batch(t, d, []api.Op{get("t", num(1)), {Kind: 9}, put("t", num(9), txt("z")), {Kind: 10}, get("t")}, false, ok(row{num(1), txt("x")}), api.Result{Code: api.ErrProgram})
	batch(t, d, []api.Op{{Kind: api.OGet, Table: "u"}, {Kind: 9}}, false, api.Result{Code: api.ErrTable})
	batch(t, d, []api.Op{get("t"), get("u"), {}}, false, api.Result{Code: api.ErrRow})
}

// A row that others may take the place of by a unique index, and back.
func TestUniqueWithinABatch(t *testing.T) {
	d := three(t, true)
	// Two rows change their values by a third value.
	batch(t, d, []api.Op{put("t", num(1), txt("y"))}, false, api.Result{Code: api.ErrUnique})
	batch(t, d, []api.Op{put("t", num(1), null()), put("t", num(2), txt("x")), put("t", num(1), txt("y"))}, true, ok(), ok(), ok())
	rows(t, d, "t", row{num(1), txt("y")}, row{num(2), txt("x")}, row{num(5), null()})
	// A batch looks at each operation by itself, not at what it comes to in the end.
	batch(t, d, []api.Op{put("t", num(1), txt("x")), put("t", num(2), txt("y"))}, false, api.Result{Code: api.ErrUnique})
	batch(t, d, []api.Op{del("t", num(2)), put("t", num(1), txt("x")), insert("t", num(2), txt("x"))}, false, ok(row{num(2), txt("x")}), ok(), api.Result{Code: api.ErrUnique})
	batch(t, d, []api.Op{del("t", num(2)), put("t", num(1), txt("x")), insert("t", num(2), txt("y"))}, true, ok(row{num(2), txt("x")}), ok(), ok())
	index(t, d, "t", "i", row{null(), num(5)}, row{txt("x"), num(1)}, row{txt("y"), num(2)})
}

func TestBatchesOfAsManyAsMayBe(t *testing.T) {
	d := data(t, plainTable("p"))
	var ops []api.Op
	for i := range int64(most) {
		ops = append(ops, insert("p", num(i*7919%most)))
	}
	before := state(d)
	for _, long := range [][]api.Op{append(slices.Clone(ops), scan("p")), make([]api.Op, most+1), make([]api.Op, 2*most), make([]api.Op, 1<<16)} {
		if results, done, e := d.Apply(long); len(results) != 0 || done || e != api.ErrLong {
			t.Errorf("Apply of %d: %d results, %t %d, not ErrLong", len(long), len(results), done, e)
		}
		unchanged(t, d, before)
	}
	last := slices.Clone(ops)
	last[most-1] = get("p")
	results, done, e := d.Apply(last)
	if len(results) != most || done || e != api.OK || results[most-1].Code != api.ErrRow {
		t.Errorf("Apply: %d results, %t %d", len(results), done, e)
	}
	unchanged(t, d, before)
	allDone(t, d, ops...)
	all, _ := d.Rows("p")
	for i, r := range all {
		if len(all) != most || !sameRows([]row{r}, []row{{num(int64(i))}}) {
			t.Fatalf("%d rows, at %d %s", len(all), i, brief(r))
		}
	}
	if results, done, e := d.Apply(make([]api.Op, most)); len(results) != 1 || done || e != api.OK || results[0].Code != api.ErrProgram {
		t.Errorf("Apply of no kinds: %s %t %d", brief(results), done, e)
	}
}

// A table that becomes full in a batch: the first row too many undoes all.
func TestTooManyRowsWithinABatch(t *testing.T) {
	d := data(t, plainTable("p"))
	var list []row
	for i := range int64(most - 2) {
		list = append(list, row{num(i)})
	}
	putAll(t, d, "p", list...)
	batch(t, d, []api.Op{put("p", num(-1)), insert("p", num(-2)), put("p", num(-1)), put("p", num(-3))}, false, ok(), ok(), ok(), api.Result{Code: api.ErrLong})
	batch(t, d, []api.Op{put("p", num(-1)), put("p", num(-2)), insert("p", num(-3))}, false, ok(), ok(), api.Result{Code: api.ErrLong})
	batch(t, d, []api.Op{put("p", num(-1)), put("p", num(-2)), del("p", num(7)), insert("p", num(-3)), insert("p", num(-3))}, false, ok(), ok(), ok(row{num(7)}), ok(), api.Result{Code: api.ErrThere})
	batch(t, d, []api.Op{put("p", num(-1)), put("p", num(-2)), del("p", num(7)), insert("p", num(-3))}, true, ok(), ok(), ok(row{num(7)}), ok())
	if all, _ := d.Rows("p"); len(all) != most {
		t.Errorf("%d rows", len(all))
	}
}

// A batch is of the tables that are there: one that was dropped is gone for it, with all that was done to it.
func TestBatchesAndTablesThatGo(t *testing.T) {
	d := data(t, example(true), plainTable("p"))
	batch(t, d, []api.Op{put("t", num(1), txt("x")), put("p", num(1)), get("u")}, false, ok(), ok(), api.Result{Code: api.ErrTable})
	batch(t, d, []api.Op{put("t", num(1), txt("x")), put("p", num(1))}, true, ok(), ok())
	drop(t, d, "t")
	batch(t, d, []api.Op{put("p", num(2)), put("t", num(2), txt("y"))}, false, ok(), api.Result{Code: api.ErrTable})
	create(t, d, example(false), api.OK)
	batch(t, d, []api.Op{put("p", num(2)), put("t", num(2), txt("y")), put("t", num(3), txt("y")), scan("p")}, true, ok(), ok(), ok(), ok(row{num(1)}, row{num(2)}))
}

// 15.3: two batches, both done, are as one of both.
func TestTwoBatchesAreOne(t *testing.T) {
	ops := []api.Op{
		put("t", num(1), txt("x")), put("t", num(2), null()), get("t", num(1)), find("t", "i", null()), put("t", num(1), txt("z")),
		insert("t", num(3), txt("x")), del("t", num(2)), scan("t"), put("t", num(2), txt("y")), scan("t"),
	}
	whole := data(t, example(true))
	want := allDone(t, whole, ops...)
	for n := range len(ops) + 1 {
		d := data(t, example(true))
		results := append(allDone(t, d, ops[:n]...), allDone(t, d, ops[n:]...)...)
		if !sameResults(results, want) {
			t.Errorf("parted at %d: %s, not %s", n, brief(results), brief(want))
		}
		unchanged(t, d, state(whole))
	}
}

// Two Data do not touch one another.
func TestDataAreApart(t *testing.T) {
	a, b := three(t, true), data(t, example(false))
	rows(t, b, "t")
	putAll(t, b, "t", row{num(1), txt("q")}, row{num(2), txt("q")})
	before := state(b)
	putAll(t, a, "t", row{num(1), txt("z")})
	told(t, a, del("t", num(2)), row{num(2), txt("y")})
	create(t, a, plainTable("p"), api.OK)
	unchanged(t, b, before)
	before = state(a)
	drop(t, b, "t")
	tables(t, b)
	unchanged(t, a, before)
	tables(t, table.New())
}

// R4: what is handed in is neither changed nor kept, and what is told is new memory.

// copyOf shares nothing with an operation.
func copyOf(op api.Op) api.Op {
	texts := func(list row) row {
		out := slices.Clone(list)
		for i, v := range out {
			out[i].S = strings.Clone(v.S)
		}
		return out
	}
	op.Key, op.To, op.Row = texts(op.Key), texts(op.To), texts(op.Row)
	return op
}

func sameOps(a, b []api.Op) bool {
	return slices.EqualFunc(a, b, func(a, b api.Op) bool {
		lists := sameRows([]row{a.Key, a.To, a.Row}, []row{b.Key, b.To, b.Row})
		a.Key, a.To, a.Row, b.Key, b.To, b.Row = nil, nil, nil, nil, nil, nil
		return lists && reflect.DeepEqual(a, b)
	})
}

// roomy has spare room behind a list, with values that nobody may read or write.
func roomy(list row) row {
	out := append(slices.Clone(list), num(77), txt("spare"), null(), num(78))
	return out[:len(list)]
}

// spoil writes over a list, its spare room, too.
func spoil(list row) {
	for i := range list[:cap(list)] {
		list[:cap(list)][i] = api.Value{Kind: -7, N: -7, S: "spoilt"}
	}
}

// spoilRows writes over each row, and the list of them.
func spoilRows(list []row) {
	for i, r := range list[:cap(list)] {
		spoil(r)
		list[:cap(list)][i] = row{{Kind: -7}}
	}
}

// allKinds is a batch of all kinds on ladder's table.
func allKinds() []api.Op {
	return []api.Op{
		put("w", num(3), txt("long text"), num(1), txt("another text"), num(3)),
		insert("w", num(5), txt("b"), num(2), txt("x"), num(5)),
		get("w", num(3), txt("long text")),
		{Kind: api.OScan, Table: "w", Key: row{num(2)}, To: row{num(9), txt("z")}, Limit: 9},
		find("w", "k", txt("x"), txt("x"), txt("x")),
		find("w", "b", txt("another text")),
		add("w", 2, 5, num(3), txt("long text")),
		del("w", num(5), txt("b")),
		get("w", num(3), txt("long text")),
		put("w", num(7), txt("it stays"), num(7), txt("as it is"), null()),
		insert("w", num(8), txt("and so"), num(8), txt("does this"), num(9)),
	}
}

func TestHandedInIsNotChangedNorKept(t *testing.T) {
	d, _ := ladder(t)
	ops := allKinds()
	for i, op := range ops {
		ops[i].Key, ops[i].To, ops[i].Row = roomy(op.Key), roomy(op.To), roomy(op.Row)
	}
	ops = append(ops, put("w", num(99)))[:len(ops)] // an operation in the spare room is none
	var before []api.Op
	for _, op := range ops {
		before = append(before, copyOf(op))
	}
	results := allDone(t, d, ops...)
	if !sameOps(ops, before) {
		t.Errorf("changed: %s, not %s", brief(ops), brief(before))
	}
	for i, op := range ops {
		for what, list := range map[string]row{"key": op.Key, "to": op.To, "row": op.Row} {
			if !sameRows([]row{list[len(list) : len(list)+4]}, []row{{num(77), txt("spare"), null(), num(78)}}) {
				t.Errorf("the spare room of %d's %s has changed: %v", i, what, list[:cap(list)])
			}
		}
	}
	now, kept := state(d), fmt.Sprint(results)
	for i := range ops {
		spoil(ops[i].Key)
		spoil(ops[i].To)
		spoil(ops[i].Row)
		ops[i] = api.Op{}
	}
	unchanged(t, d, now)
	if text := fmt.Sprint(results); text != kept {
		t.Errorf("results have changed: %.300s, not %.300s", text, kept)
	}
}

// Beside a Code that is not OK, too.
func TestHandedInIsNotChangedWhenRefused(t *testing.T) {
	d := three(t, true)
	for _, op := range []api.Op{put("t", num(9), txt("y")), insert("t", num(1), txt("q")), put("t", num(9)), get("t", txt("x")), add("t", 1, 1, num(1)), find("t", "i", num(1)), {Kind: api.OScan, Table: "t", To: row{txt("x")}}} {
		ops := []api.Op{put("t", num(7), txt("seven")), op}
		before := []api.Op{copyOf(ops[0]), copyOf(ops[1])}
		if _, done, e := d.Apply(ops); done || e != api.OK {
			t.Errorf("%s: %t %d", brief(op), done, e)
		}
		if !sameOps(ops, before) {
			t.Errorf("changed: %s, not %s", brief(ops), brief(before))
		}
	}
}

func TestSchemasAreNotKept(t *testing.T) {
	x := wide()
	d := data(t, x)
	putAll(t, d, "w", row{num(1), txt("x"), num(7), txt("s"), num(4)})
	before := state(d)
	for i := range x.Columns {
		x.Columns[i] = api.Column{Name: "spoilt", Kind: -7}
	}
	for i := range x.Indexes {
		for j := range x.Indexes[i].Columns {
			x.Indexes[i].Columns[j] = 99
		}
		x.Indexes[i] = api.Index{}
	}
	unchanged(t, d, before)
	found(t, d, wide())
	told(t, d, find("w", "v", txt("s"), num(4)), row{num(1), txt("x"), num(7), txt("s"), num(4)})
	refused(t, d, put("w", num(2), txt("x"), num(7), null(), null()), api.ErrUnique)
	// What Schema tells is new, too.
	y, _ := d.Schema("w")
	for i := range y.Columns {
		y.Columns[i].Kind = -7
	}
	for i := range y.Indexes {
		clear(y.Indexes[i].Columns)
		y.Indexes[i].Unique = false
	}
	unchanged(t, d, before)
	refused(t, d, put("w", num(2), txt("x"), num(7), null(), null()), api.ErrUnique)
	list := d.Tables()
	for i := range list[:cap(list)] {
		list[:cap(list)][i] = "spoilt"
	}
	unchanged(t, d, before)
}

func TestWhatIsToldIsNew(t *testing.T) {
	d, _ := ladder(t)
	results := allDone(t, d, allKinds()...)
	one, _ := d.Rows("w")
	other, _ := d.Rows("w")
	byIndex, _ := d.Index("w", "k")
	before, kept := state(d), fmt.Sprint(other)
	for i := range results {
		spoilRows(results[i].Rows)
		unchanged(t, d, before)
	}
	spoilRows(one)
	spoilRows(byIndex)
	unchanged(t, d, before)
	if text := fmt.Sprint(other); text != kept {
		t.Errorf("another answer has changed: %.300s, not %.300s", text, kept)
	}
	told(t, d, get("w", num(3), txt("long text")), row{num(3), txt("long text"), num(6), txt("another text"), num(3)})
}

// What was told stays as it is, whatever is done then.
func TestWhatWasToldStays(t *testing.T) {
	d, _ := ladder(t)
	results := allDone(t, d, allKinds()...)
	all, _ := d.Rows("w")
	byIndex, _ := d.Index("w", "b")
	before := fmt.Sprint(results, all, byIndex)
	ops := []api.Op{add("w", 2, 7, num(3), txt("long text")), del("w", num(2), txt("x")), put("w", num(0), txt(""), null(), null(), null()), put("w", num(4), txt("x"), num(9), null(), num(9))}
	allDone(t, d, ops...)
	d.Apply(append(ops, api.Op{}))
	drop(t, d, "w")
	if text := fmt.Sprint(results, all, byIndex); text != before {
		t.Errorf("told: %.300s, not %.300s", text, before)
	}
}

// Writing over results of one operation changes no others of the same answer.
func TestListsOfOneAnswerAreApart(t *testing.T) {
	d, _ := ladder(t)
	key := row{num(4), txt("y")}
	results := allDone(t, d, get("w", key...), get("w", key...), scan("w"), find("w", "ab", num(4), txt("y")), add("w", 4, 0, key...), del("w", key...))
	var areas []area
	for i, r := range results {
		areas = append(areas, rowAreas(fmt.Sprint("result ", i), r.Rows)...)
	}
	all, _ := d.Rows("w")
	areas = append(areas, rowAreas("rows", all)...)
	for _, name := range []string{"b", "a", "n", "ab", "k"} {
		list, _ := d.Index("w", name)
		areas = append(areas, rowAreas("index "+name, list)...)
	}
	areas = append(areas, listArea("results", results))
	apart(t, areas)
}

// area is a piece of memory. What lies there is kept, so that the memory is not given to another meanwhile.
type area struct {
	what       string
	kept       any
	begin, end uintptr
}

func textArea(what, s string) area {
	p := uintptr(unsafe.Pointer(unsafe.StringData(s)))
	return area{what, s, p, p + uintptr(len(s))}
}

// listArea has a list's spare room, too.
func listArea[T any](what string, list []T) area {
	var member T
	p := uintptr(unsafe.Pointer(unsafe.SliceData(list)))
	return area{what, list, p, p + uintptr(cap(list))*unsafe.Sizeof(member)}
}

func rowAreas(what string, list []row) []area {
	out := []area{listArea(what, list)}
	for i, r := range list {
		out = append(out, listArea(fmt.Sprint(what, " row ", i), r))
		for j, v := range r {
			out = append(out, textArea(fmt.Sprint(what, " row ", i, " text ", j), v.S))
		}
	}
	return out
}

// apart fails if two of these pieces of memory share any.
func apart(t *testing.T, areas []area) {
	t.Helper()
	for i, a := range areas {
		for _, b := range areas[:i] {
			if a.begin < b.end && b.begin < a.end {
				t.Errorf("%s and %s share memory: %s, %s", a.what, b.what, brief(a.kept), brief(b.kept))
			}
		}
	}
}

func TestAnswersShareNothingWithArguments(t *testing.T) {
	d := data(t, wide())
	own := func(s string) api.Value { return txt(strings.Clone(s)) }
	ops := []api.Op{
		put("w", num(1), own("key"), num(7), own("text"), num(4)), get("w", num(1), own("key")), find("w", "i", own("text")),
		add("w", 4, 1, num(1), own("key")), {Kind: api.OScan, Table: "w", Key: row{num(1), own("a")}, To: row{num(1), own("z")}, Limit: 1}, del("w", num(1), own("key")),
		insert("w", num(1), own("key"), num(7), own("text"), num(4)),
	}
	areas := []area{listArea("ops", ops)}
	for i, op := range ops {
		areas = append(areas, rowAreas(fmt.Sprint("handed in ", i), []row{op.Key, op.To, op.Row})...)
	}
	for i, r := range allDone(t, d, ops...) {
		areas = append(areas, rowAreas(fmt.Sprint("result ", i), r.Rows)...)
	}
	all, _ := d.Rows("w")
	again, _ := d.Rows("w")
	areas = append(append(areas, rowAreas("rows", all)...), rowAreas("rows again", again)...)
	for _, name := range []string{"i", "v", "j"} {
		list, _ := d.Index("w", name)
		areas = append(areas, rowAreas("index "+name, list)...)
	}
	apart(t, areas)
}

// Texts are not kept as they were handed in: their bytes may be written anew.
func TestTextsAreNotKept(t *testing.T) {
	var room [][]byte
	text := func(s string) string {
		bytes := []byte(s)
		room = append(room, bytes)
		return unsafe.String(&bytes[0], len(s))
	}
	d := table.New()
	x := example(true)
	x.Name, x.Indexes[0].Name = text("table"), text("index")
	x.Columns[0].Name, x.Columns[1].Name = text("first"), text("second")
	if e := d.Create(x); e != api.OK {
		t.Fatal(e)
	}
	results := allDone(t, d,
		put(text("table"), num(1), txt(text("value"))), get(x.Name, num(1)), find("table", x.Indexes[0].Name, txt(text("value"))),
		insert("table", num(2), txt(text("other"))), del("table", num(2)), insert("table", num(2), txt(text("other"))),
	)
	before, kept := state(d), fmt.Sprint(results)
	for _, bytes := range room {
		copy(bytes, "zzzzzzzz")
	}
	unchanged(t, d, before)
	if now := fmt.Sprint(results); now != kept {
		t.Errorf("results have changed: %s, not %s", now, kept)
	}
	tables(t, d, "table")
	rows(t, d, "table", row{num(1), txt("value")}, row{num(2), txt("other")})
	told(t, d, find("table", "index", txt("value")), row{num(1), txt("value")})
	refused(t, d, put("table", num(2), txt("value")), api.ErrUnique)
	if e := d.Drop("table"); e != api.OK {
		t.Error(e)
	}
	notThere(t, d, "table")
}

// R7: the same call tells the same, and one that only tells changes nothing.
func TestTellingTwice(t *testing.T) {
	d, list := ladder(t)
	before := state(d)
	for range 5 {
		rows(t, d, "w", list...)
		told(t, d, scan("w"), list...)
		told(t, d, find("w", "n", null()), list...)
		told(t, d, get("w", num(2), txt("x")), list[0])
		told(t, d, put("w", list[0]...))
		told(t, d, add("w", 4, 0, num(2), txt("x")), list[0])
		refused(t, d, get("w"), api.ErrRow)
		unchanged(t, d, before)
	}
}
