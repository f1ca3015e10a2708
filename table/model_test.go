package table_test

import (
	"cmp"
	"math"
	"math/big"
	"math/rand"
	"slices"
	"strings"
	"testing"

	"hopper/api"
	"hopper/schema"
	"hopper/table"
	"hopper/value"
)

// The model is the chapter's words, written out as plainly as may be: a table is its rows, in no order; all else is looked for in them.

type modelTable struct {
	schema api.Table
	rows   []row
}

type model map[string]*modelTable

// order is chapter 4's, for lists of any length.
func order(a, b row) int {
	for i := range min(len(a), len(b)) {
		if c := orderOfValues(a[i], b[i]); c != 0 {
			return c
		}
	}
	return cmp.Compare(len(a), len(b))
}

func orderOfValues(a, b api.Value) int {
	return cmp.Or(cmp.Compare(a.Kind, b.Kind), cmp.Compare(a.N, b.N), orderOfFloats(real(a.C), real(b.C)), orderOfFloats(imag(a.C), imag(b.C)), cmp.Compare(a.S, b.S))
}

func orderOfFloats(a, b float64) int {
	minus := func(x float64) int {
		if math.Signbit(x) {
			return 0
		}
		return 1
	}
	if a == 0 && b == 0 {
		return minus(a) - minus(b)
	}
	return cmp.Compare(a, b)
}

func mayBe(list row) bool {
	_, e := value.Check(list)
	return e == api.OK
}

func (x *modelTable) key(r row) row { return r[:x.schema.Key] }

// sorted has the rows in the order of their keys.
func (x *modelTable) sorted(rows []row) []row {
	out := slices.Clone(rows)
	slices.SortFunc(out, func(a, b row) int { return order(x.key(a), x.key(b)) })
	return out
}

// those are the rows, in order, of which is tells so, up to a limit.
func (x *modelTable) those(limit int, is func(row) bool) []row {
	var out []row
	for _, r := range x.sorted(x.rows) {
		if is(r) && len(out) < limit {
			out = append(out, r)
		}
	}
	return out
}

func (x *modelTable) isBeginning(key row) bool {
	if len(key) > x.schema.Key || !mayBe(key) {
		return false
	}
	for i, v := range key {
		if v.Kind != x.schema.Columns[i].Kind {
			return false
		}
	}
	return true
}

func (x *modelTable) isKey(key row) bool { return len(key) == x.schema.Key && x.isBeginning(key) }

func columnsOf(r row, columns []int) row {
	var out row
	for _, n := range columns {
		out = append(out, r[n])
	}
	return out
}

func (x *modelTable) isOfIndex(key row, columns []int) bool {
	if len(key) != len(columns) || !mayBe(key) {
		return false
	}
	for i, n := range columns {
		if key[i].Kind != 0 && key[i].Kind != x.schema.Columns[n].Kind {
			return false
		}
	}
	return true
}

func (x *modelTable) clash(a, b row) bool {
	for _, i := range x.schema.Indexes {
		values := columnsOf(a, i.Columns)
		hasNull := slices.ContainsFunc(values, func(v api.Value) bool { return v.Kind == 0 })
		if i.Unique && !hasNull && order(values, columnsOf(b, i.Columns)) == 0 && order(x.key(a), x.key(b)) != 0 {
			return true
		}
	}
	return false
}

func (x *modelTable) at(key row) int {
	return slices.IndexFunc(x.rows, func(r row) bool { return order(x.key(r), key) == 0 })
}

func (x *modelTable) put(r row) api.Errno {
	if slices.ContainsFunc(x.rows, func(other row) bool { return x.clash(r, other) }) {
		return api.ErrUnique
	}
	at := x.at(x.key(r))
	if at < 0 && len(x.rows) >= 4096 {
		return api.ErrLong
	}
	if at >= 0 {
		x.rows = slices.Delete(x.rows, at, at+1)
	}
	x.rows = append(x.rows, slices.Clone(r))
	return api.OK
}

func fail(e api.Errno) api.Result { return api.Result{Code: e} }

func (m model) do(op api.Op) api.Result {
	if op.Kind < 1 || op.Kind > 7 {
		return fail(api.ErrProgram)
	}
	x := m[op.Table]
	if x == nil {
		return fail(api.ErrTable)
	}
	switch op.Kind {
	case api.OGet:
		return x.doGet(op)
	case api.OPut, api.OInsert:
		return x.doPut(op)
	case api.ODelete:
		r := x.doGet(op)
		if len(r.Rows) > 0 {
			at := x.at(op.Key)
			x.rows = slices.Delete(x.rows, at, at+1)
		}
		return r
	case api.OScan:
		return x.doScan(op)
	case api.OFind:
		return x.doFind(op)
	}
	return x.doAdd(op)
}

func (x *modelTable) doGet(op api.Op) api.Result {
	if !x.isKey(op.Key) {
		return fail(api.ErrRow)
	}
	return ok(x.those(1, func(r row) bool { return order(x.key(r), op.Key) == 0 })...)
}

func (x *modelTable) doPut(op api.Op) api.Result {
	if schema.Fits(x.schema, op.Row) != api.OK {
		return fail(api.ErrRow)
	}
	if op.Kind == api.OInsert && x.at(x.key(op.Row)) >= 0 {
		return fail(api.ErrThere)
	}
	return fail(x.put(op.Row))
}

func (x *modelTable) doScan(op api.Op) api.Result {
	if !x.isBeginning(op.Key) || !x.isBeginning(op.To) {
		return fail(api.ErrRow)
	}
	if op.Limit < 1 || op.Limit > 4096 {
		return fail(api.ErrRange)
	}
	return ok(x.those(op.Limit, func(r row) bool {
		return order(x.key(r), op.Key) >= 0 && (len(op.To) == 0 || order(x.key(r), op.To) < 0)
	})...)
}

func (x *modelTable) doFind(op api.Op) api.Result {
	for _, i := range x.schema.Indexes {
		if i.Name != op.Index {
			continue
		}
		if !x.isOfIndex(op.Key, i.Columns) {
			return fail(api.ErrRow)
		}
		if op.Limit < 1 || op.Limit > 4096 {
			return fail(api.ErrRange)
		}
		return ok(x.those(op.Limit, func(r row) bool { return order(columnsOf(r, i.Columns), op.Key) == 0 })...)
	}
	return fail(api.ErrNone)
}

func (x *modelTable) doAdd(op api.Op) api.Result {
	if !x.isKey(op.Key) || op.At < x.schema.Key || op.At >= len(x.schema.Columns) || x.schema.Columns[op.At].Kind != api.VInt {
		return fail(api.ErrRow)
	}
	at := x.at(op.Key)
	if at < 0 {
		return fail(api.ErrNone)
	}
	now := slices.Clone(x.rows[at])
	if now[op.At].Kind == 0 {
		return fail(api.ErrRow)
	}
	sum := new(big.Int).Add(big.NewInt(now[op.At].N), big.NewInt(op.N))
	if !sum.IsInt64() {
		return fail(api.ErrRange)
	}
	now[op.At].N = sum.Int64()
	if e := x.put(now); e != api.OK {
		return fail(e)
	}
	return ok(now)
}

func (m model) apply(ops []api.Op) ([]api.Result, bool) {
	before := map[string][]row{}
	for name, x := range m {
		before[name] = slices.Clone(x.rows)
	}
	var results []api.Result
	for _, op := range ops {
		r := m.do(op)
		results = append(results, r)
		if r.Code != api.OK {
			for name := range m {
				m[name].rows = before[name]
			}
			return results, false
		}
	}
	return results, true
}

// alike fails unless the data tell what the model does; no two rows have the same key, or clash.
func alike(t *testing.T, d *table.Data, m model) {
	t.Helper()
	names := []string{}
	for name, x := range m {
		names = append(names, name)
		found(t, d, x.schema)
		rows(t, d, name, x.sorted(x.rows)...)
		for _, i := range x.schema.Indexes {
			var entries []row
			for _, r := range x.rows {
				entries = append(entries, append(columnsOf(r, i.Columns), x.key(r)...))
			}
			slices.SortFunc(entries, order)
			index(t, d, name, i.Name, entries...)
		}
	}
	slices.Sort(names)
	tables(t, d, names...)
}

// sound holds what follows (15.3) against the rows that the data tell themselves.
func sound(t *testing.T, d *table.Data) {
	t.Helper()
	for _, name := range d.Tables() {
		s, _ := d.Schema(name)
		all, _ := d.Rows(name)
		x := &modelTable{schema: s}
		for i, a := range all {
			if schema.Fits(s, a) != api.OK || i > 0 && order(x.key(all[i-1]), x.key(a)) >= 0 {
				t.Fatalf("%s: %s does not fit, or does not stand in order", name, brief(a))
			}
			for _, b := range all[:i] {
				if x.clash(a, b) {
					t.Fatalf("%s: %s and %s clash", name, brief(a), brief(b))
				}
			}
		}
	}
}

// What is drawn: from few values, so that they meet again.

func drawValue(r *rand.Rand, kind int) api.Value {
	minus := math.Copysign(0, -1)
	switch kind {
	case api.VBool:
		return yes(r.Intn(2) == 0)
	case api.VInt:
		return num([]int64{-1, 0, 1, 2, 3, math.MaxInt64, math.MinInt64}[r.Intn(7)])
	case api.VFloat:
		return flo([]float64{minus, 0, 1.5, -1.5, math.Inf(1)}[r.Intn(5)])
	case api.VPair:
		return pair([]complex128{complex(minus, 0), 0, 1, 1i, complex(0, minus)}[r.Intn(5)])
	case api.VText:
		return txt([]string{"", "a", "a\x00", "aa", "b"}[r.Intn(5)])
	}
	return null()
}

func drawSchema(r *rand.Rand) api.Table {
	x := api.Table{Name: string("abc"[r.Intn(3)])}
	for i := range 1 + r.Intn(5) {
		kind := 1 + r.Intn(5)
		if r.Intn(2) == 0 {
			kind = api.VInt
		}
		x.Columns = append(x.Columns, api.Column{Name: strings.Repeat("c", i+1), Kind: kind})
	}
	x.Key = 1 + r.Intn(min(2, len(x.Columns)))
	for i := range r.Intn(4) {
		n := api.Index{Name: strings.Repeat("i", i+1), Unique: r.Intn(2) == 0}
		for range 1 + r.Intn(2) {
			n.Columns = append(n.Columns, r.Intn(len(x.Columns)))
		}
		x.Indexes = append(x.Indexes, n)
	}
	if r.Intn(10) == 0 {
		x.Key = drawNumber(r)
	}
	return x
}

func drawNumber(r *rand.Rand) int { return numbers()[r.Intn(len(numbers()))] }

// drawList mostly draws a value of its column's kind for each column.
func drawList(r *rand.Rand, x api.Table, columns []int, nulls bool) row {
	list := row{}
	for _, n := range columns {
		kind := x.Columns[n].Kind
		if nulls && r.Intn(6) == 0 {
			kind = api.VNull
		}
		list = append(list, drawValue(r, kind))
	}
	if r.Intn(40) > 0 || len(list) == 0 {
		return list
	}
	switch at := r.Intn(len(list)); r.Intn(5) {
	case 0:
		list[at] = drawValue(r, r.Intn(6))
	case 1:
		list[at] = bad()[r.Intn(len(bad()))]
	case 2:
		list[at] = null()
	case 3:
		return list[:at]
	case 4:
		return append(list, drawValue(r, r.Intn(6)))
	}
	return list
}

// upTo are the numbers below n.
func upTo(n int) []int {
	var out []int
	for i := range n {
		out = append(out, i)
	}
	return out
}

func drawLimit(r *rand.Rand) int {
	if r.Intn(12) == 0 {
		return drawNumber(r)
	}
	return []int{1, 2, 3, 10, 4096}[r.Intn(5)]
}

// drawOp mostly draws one that is not refused. All fields have something, whether they are looked at or not.
func drawOp(r *rand.Rand, m model) api.Op {
	op := api.Op{Kind: 1 + r.Intn(7), Table: string("abc"[r.Intn(3)]), At: r.Intn(6), N: int64(r.Intn(5) - 2), Limit: drawLimit(r), Index: strings.Repeat("i", 1+r.Intn(3))}
	if r.Intn(60) == 0 {
		op.Kind = drawNumber(r)
	}
	if r.Intn(20) == 0 {
		op.N = int64(drawNumber(r))
	}
	x := m[op.Table]
	if x == nil {
		return op
	}
	op.Row = drawList(r, x.schema, upTo(len(x.schema.Columns)), true)
	columns := upTo(x.schema.Key)
	switch op.Kind {
	case api.OFind:
		if at := slices.IndexFunc(x.schema.Indexes, func(i api.Index) bool { return i.Name == op.Index }); at >= 0 {
			columns = x.schema.Indexes[at].Columns
		}
	case api.OScan:
		op.To = drawList(r, x.schema, columns[:r.Intn(len(columns)+1)], false)
		columns = columns[:r.Intn(len(columns)+1)]
	}
	op.Key = drawList(r, x.schema, columns, op.Kind == api.OFind)
	for range 6 {
		// A column that may be raised is drawn rarely, or there is none.
		if op.At >= x.schema.Key && op.At < len(x.schema.Columns) && x.schema.Columns[op.At].Kind == api.VInt {
			break
		}
		op.At = r.Intn(len(x.schema.Columns) + 1)
	}
	return op
}

func drawBatch(r *rand.Rand, m model) []api.Op {
	var ops []api.Op
	for range r.Intn(8) {
		ops = append(ops, drawOp(r, m))
	}
	return ops
}

// counts tells how often each kind had each code: what was never drawn shows nothing.
type counts map[[2]int]int

func (c counts) count(ops []api.Op, results []api.Result) {
	for i, x := range results {
		kind := ops[i].Kind
		if kind < 1 || kind > 7 {
			kind = 0
		}
		c[[2]int{kind, int(x.Code)}]++
	}
}

// each fails unless a kind had just these codes, and often.
func (c counts) each(t *testing.T, kind, least int, want ...api.Errno) {
	t.Helper()
	for _, e := range want {
		if n := c[[2]int{kind, int(e)}]; n < least {
			t.Errorf("kind %d: %d was told %d times alone", kind, e, n)
		}
		delete(c, [2]int{kind, int(e)})
	}
	for x, n := range c {
		if x[0] == kind {
			t.Errorf("kind %d: %d was told %d times", kind, x[1], n)
		}
	}
}

// applyBoth holds a batch's results against the model's.
func applyBoth(t *testing.T, d *table.Data, m model, ops []api.Op, seen counts) bool {
	t.Helper()
	results, done, e := d.Apply(ops)
	want, wantDone := m.apply(ops)
	if !sameResults(results, want) || done != wantDone || e != api.OK {
		t.Fatalf("Apply %v: %v %t %d, not %v %t", ops, results, done, e, want, wantDone)
	}
	seen.count(ops, results)
	for i := range results {
		spoilRows(results[i].Rows)
	}
	return done
}

func createBoth(t *testing.T, d *table.Data, m model, x api.Table) {
	t.Helper()
	want := schema.Check(x)
	if want == api.OK && m[x.Name] != nil {
		want = api.ErrThere
	}
	if e := d.Create(x); e != want {
		t.Fatalf("Create %s: %d, not %d", brief(x), e, want)
	}
	if want == api.OK {
		m[x.Name] = &modelTable{schema: x}
	}
}

func dropBoth(t *testing.T, d *table.Data, m model, name string) {
	t.Helper()
	e := d.Drop(name)
	if (e == api.OK) != (m[name] != nil) || e != api.OK && e != api.ErrTable {
		t.Fatalf("Drop %q: %d", name, e)
	}
	delete(m, name)
}

func TestScriptsLikeTheModel(t *testing.T) {
	seen := counts{}
	for seed := range int64(1500) {
		r := rand.New(rand.NewSource(seed))
		d, m := table.New(), model{}
		for range 4 {
			createBoth(t, d, m, drawSchema(r))
		}
		for i := range 150 {
			switch r.Intn(40) {
			case 0:
				createBoth(t, d, m, drawSchema(r))
			case 1:
				if r.Intn(3) == 0 {
					dropBoth(t, d, m, string("abcd"[r.Intn(4)]))
				}
			default:
				applyBoth(t, d, m, drawBatch(r, m), seen)
			}
			if i%5 == 0 {
				alike(t, d, m)
				sound(t, d)
			}
		}
		if t.Failed() {
			t.Fatalf("seed %d", seed)
		}
	}
	seen.each(t, 0, 500, api.ErrProgram)
	seen.each(t, api.OGet, 100, api.OK, api.ErrTable, api.ErrRow)
	seen.each(t, api.OPut, 100, api.OK, api.ErrTable, api.ErrRow, api.ErrUnique)
	seen.each(t, api.OInsert, 100, api.OK, api.ErrTable, api.ErrRow, api.ErrThere, api.ErrUnique)
	seen.each(t, api.ODelete, 100, api.OK, api.ErrTable, api.ErrRow)
	seen.each(t, api.OScan, 100, api.OK, api.ErrTable, api.ErrRow, api.ErrRange)
	seen.each(t, api.OFind, 100, api.OK, api.ErrTable, api.ErrNone, api.ErrRow, api.ErrRange)
	seen.each(t, api.OAdd, 50, api.OK, api.ErrTable, api.ErrNone, api.ErrRow, api.ErrRange, api.ErrUnique)
}

// 15.3: what a batch that is done does is what its operations do one by one, and two of them are as one.
func TestBatchesPartedLikeOne(t *testing.T) {
	parted := 0
	for seed := range int64(150) {
		r := rand.New(rand.NewSource(seed))
		one, many, m := table.New(), table.New(), model{}
		for range 3 {
			x := drawSchema(r)
			many.Create(x)
			createBoth(t, one, m, x)
		}
		for range 60 {
			ops := drawBatch(r, m)
			results, done, _ := one.Apply(ops)
			if !done {
				continue
			}
			m.apply(ops)
			at := r.Intn(len(ops) + 1)
			first, ok1, _ := many.Apply(ops[:at])
			second, ok2, _ := many.Apply(ops[at:])
			if !ok1 || !ok2 || !sameResults(results, append(first, second...)) {
				t.Fatalf("seed %d: %v, parted at %d: %v %v", seed, ops, at, first, second)
			}
			parted++
		}
		unchanged(t, many, state(one))
	}
	if parted < 1000 {
		t.Errorf("%d batches were parted alone", parted)
	}
}

// Near the end of room: rows come and go at a full table.
func TestScriptsWhenItIsFull(t *testing.T) {
	r := rand.New(rand.NewSource(152))
	x := api.Table{Name: "a", Columns: []api.Column{{Name: "a", Kind: api.VInt}, {Name: "b", Kind: api.VInt}}, Key: 1, Indexes: []api.Index{{Name: "i", Columns: []int{1}, Unique: true}}}
	d, m := table.New(), model{}
	createBoth(t, d, m, x)
	var list []row
	for n := range int64(most - 2) {
		list = append(list, row{num(n), num(n)})
	}
	putAll(t, d, "a", list...)
	m["a"].rows = list
	seen := counts{}
	// Numbers up to most are mostly there, those behind mostly not.
	draw := func() api.Value { return num(int64(r.Intn(2 * most))) }
	for range 800 {
		var ops []api.Op
		for range 1 + r.Intn(3) {
			switch r.Intn(6) {
			case 0:
				ops = append(ops, put("a", draw(), null()))
			case 1:
				ops = append(ops, put("a", draw(), draw()))
			case 2:
				ops = append(ops, insert("a", draw(), draw()))
			case 3:
				ops = append(ops, insert("a", draw(), null()))
			default:
				ops = append(ops, del("a", draw()))
			}
		}
		applyBoth(t, d, m, ops, seen)
	}
	alike(t, d, m)
	seen.each(t, api.OPut, 20, api.OK, api.ErrUnique, api.ErrLong)
	seen.each(t, api.OInsert, 20, api.OK, api.ErrThere, api.ErrUnique, api.ErrLong)
	seen.each(t, api.ODelete, 20, api.OK)
}

// P1: whatever the operations, no call panics, and all tell what the model does.
func TestNothingPanics(t *testing.T) {
	r := rand.New(rand.NewSource(153))
	list := func() row {
		var out row
		for range r.Intn(4) {
			v := drawValue(r, r.Intn(6))
			if r.Intn(4) == 0 {
				v = bad()[r.Intn(len(bad()))]
			}
			out = append(out, v)
		}
		return out
	}
	text := func() string { return []string{"", "a", "b", "i", "ii", "\x00", "A"}[r.Intn(7)] }
	seen := counts{}
	for range 200 {
		d, m := table.New(), model{}
		for range 4 {
			createBoth(t, d, m, drawSchema(r))
		}
		for range 200 {
			op := api.Op{Kind: drawNumber(r), Table: text(), Key: list(), To: list(), Row: list(), Index: text(), At: drawNumber(r), N: int64(drawNumber(r)), Limit: drawNumber(r)}
			applyBoth(t, d, m, []api.Op{op}, seen)
		}
		alike(t, d, m)
	}
}
