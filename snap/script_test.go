package snap_test

import (
	"cmp"
	"fmt"
	"slices"
	"testing"

	"hopper/api"
	"hopper/occ"
	"hopper/snap"
	"hopper/table"
)

const most = 4096 // operations of a query, and rows that a scan tells

type row = []api.Value

func num(n int64) api.Value { return api.Value{Kind: api.VInt, N: n} }

func txt(s string) api.Value { return api.Value{Kind: api.VText, S: s} }

func null() api.Value { return api.Value{} }

func put(name string, r ...api.Value) api.Op { return api.Op{Kind: api.OPut, Table: name, Row: r} }

func insert(name string, r ...api.Value) api.Op {
	return api.Op{Kind: api.OInsert, Table: name, Row: r}
}

func get(name string, k ...api.Value) api.Op { return api.Op{Kind: api.OGet, Table: name, Key: k} }

func del(name string, k ...api.Value) api.Op { return api.Op{Kind: api.ODelete, Table: name, Key: k} }

func scan(name string) api.Op { return api.Op{Kind: api.OScan, Table: name, Limit: most} }

func scanFrom(name string, from, to row, limit int) api.Op {
	return api.Op{Kind: api.OScan, Table: name, Key: from, To: to, Limit: limit}
}

func find(name, index string, k ...api.Value) api.Op {
	return api.Op{Kind: api.OFind, Table: name, Index: index, Key: k, Limit: most}
}

func add(name string, at int, n int64, k ...api.Value) api.Op {
	return api.Op{Kind: api.OAdd, Table: name, Key: k, At: at, N: n}
}

// example is chapter 14's schema.
func example() api.Table {
	return api.Table{
		Name:    "t",
		Columns: []api.Column{{Name: "a", Kind: api.VInt}, {Name: "b", Kind: api.VText}},
		Key:     1,
		Indexes: []api.Index{{Name: "i", Columns: []int{1}}},
	}
}

// numbers has whole numbers alone, by an index that is unique, or not.
func numbers(name string, unique bool) api.Table {
	return api.Table{
		Name:    name,
		Columns: []api.Column{{Name: "a", Kind: api.VInt}, {Name: "b", Kind: api.VInt}},
		Key:     1,
		Indexes: []api.Index{{Name: "i", Columns: []int{1}, Unique: unique}},
	}
}

// wide has a key of two values, and indexes of more than one column.
func wide() api.Table {
	return api.Table{
		Name: "w",
		Columns: []api.Column{
			{Name: "a", Kind: api.VInt}, {Name: "b", Kind: api.VText},
			{Name: "n", Kind: api.VInt}, {Name: "s", Kind: api.VText},
		},
		Key: 2,
		Indexes: []api.Index{
			{Name: "u", Columns: []int{2}, Unique: true},
			{Name: "i", Columns: []int{3}},
			{Name: "j", Columns: []int{3, 1, 3}},
		},
	}
}

func brief(x any) string {
	s := fmt.Sprint(x)
	if len(s) > 400 {
		return s[:400] + ".."
	}
	return s
}

// answer is what a query came to, as text: lists that are nil and empty ones are the same.
func answer(results []api.Result, done bool) string { return fmt.Sprint(results, done) }

// dump is all that data tell, as text.
func dump(d *table.Data) string {
	out := ""
	for _, name := range d.Tables() {
		x, _ := d.Schema(name)
		rows, _ := d.Rows(name)
		out += fmt.Sprintln(x, rows)
		for _, i := range x.Indexes {
			list, _ := d.Index(name, i.Name)
			out += fmt.Sprintln(i.Name, list)
		}
	}
	return out
}

// state is all of a store that can be seen without changing it.
func state(s *occ.Store) string {
	out := fmt.Sprintln(s.Epoch(), s.Snapshot(), s.Working(), s.Steps())
	for epoch := range s.Epoch() + 1 {
		d, e := s.AsOf(epoch)
		out += fmt.Sprintln("as of", epoch, e)
		if e == api.OK {
			out += dump(d)
		}
	}
	return out
}

// A script runs a store, and keeps what transactions and tables came to. What queries tell is held, in the end, against chapter 15, all done one after the other in the order.
type script struct {
	*testing.T
	s     *occ.Store
	ops   [][]api.Op // of each worker; nil, if it is idle
	ended []api.Outcome
	deeds []deed
	asked []asked
}

// deed is a transaction that was committed, or a table that was created or dropped.
type deed struct {
	step, epoch int
	table       bool // behind all steps up to its own
	do          func(*table.Data)
}

// asked is a query, and what it told.
type asked struct {
	ops   []api.Op
	epoch int
	told  string
}

func newScript(t *testing.T, workers int, tables ...api.Table) *script {
	t.Helper()
	s, e := occ.New(workers)
	if e != api.OK {
		t.Fatal(e)
	}
	x := &script{T: t, s: s, ops: make([][]api.Op, workers)}
	for _, y := range tables {
		x.create(y)
	}
	return x
}

func (x *script) reader() *snap.Reader {
	x.Helper()
	r, e := snap.New(x.s)
	if r == nil || e != api.OK {
		x.Fatalf("New: %v %d", r, e)
	}
	return r
}

func (x *script) create(y api.Table) {
	x.Helper()
	if e := x.s.Create(y); e != api.OK {
		x.Fatalf("Create %s: %d", y.Name, e)
	}
	x.deeds = append(x.deeds, deed{x.s.Steps(), x.s.Epoch(), true, func(d *table.Data) { d.Create(y) }})
}

func (x *script) drop(name string) {
	x.Helper()
	if e := x.s.Drop(name); e != api.OK {
		x.Fatalf("Drop %s: %d", name, e)
	}
	x.deeds = append(x.deeds, deed{x.s.Steps(), x.s.Epoch(), true, func(d *table.Data) { d.Drop(name) }})
}

func (x *script) begin(w int, ops ...api.Op) {
	x.Helper()
	if _, e := x.s.Begin(w, ops); e != api.OK {
		x.Fatalf("Begin %d: %d", w, e)
	}
	x.ops[w] = append([]api.Op{}, ops...)
}

// step takes one step of a worker, and tells whether its transaction has ended, and how.
func (x *script) step(w int) (bool, api.Outcome) {
	x.Helper()
	done, o, e := x.s.Step(w)
	if e != api.OK {
		x.Fatalf("Step %d: %d", w, e)
	}
	if done {
		ops := x.ops[w]
		x.ops[w] = nil
		x.ended = append(x.ended, o)
		if o.Committed {
			x.deeds = append(x.deeds, deed{o.Step, o.Epoch, false, func(d *table.Data) { d.Apply(ops) }})
		}
	}
	return done, o
}

// run takes steps of one worker until its transaction has ended.
func (x *script) run(w int) api.Outcome {
	x.Helper()
	for {
		if done, o := x.step(w); done {
			return o
		}
	}
}

// done runs a batch that has to be committed.
func (x *script) done(w int, ops ...api.Op) {
	x.Helper()
	x.begin(w, ops...)
	if o := x.run(w); !o.Committed {
		x.Fatalf("%s: %s", brief(ops), brief(o))
	}
}

func (x *script) advance(times int) {
	x.Helper()
	for range times {
		if !x.s.Advance() {
			x.Fatalf("Advance at the epoch %d", x.s.Epoch())
		}
	}
}

// ask asks a query that has to be answered; what it tells is looked at in the end, too.
func (x *script) ask(r *snap.Reader, ops ...api.Op) ([]api.Result, bool) {
	x.Helper()
	last := r.Last()
	results, done, epoch, e := r.Read(ops)
	if e != api.OK || epoch != x.s.Snapshot() || epoch < last || r.Last() != epoch {
		x.Fatalf("%s: %s at %d, %d; the snapshot epoch is %d, Last was %d and is %d", brief(ops), answer(results, done), epoch, e, x.s.Snapshot(), last, r.Last())
	}
	x.asked = append(x.asked, asked{copyOps(ops), epoch, answer(results, done)})
	return results, done
}

// copyOps lets tests write over what they have asked.
func copyOps(ops []api.Op) []api.Op {
	own := slices.Clone(ops)
	for at, op := range own {
		own[at].Key, own[at].To, own[at].Row = slices.Clone(op.Key), slices.Clone(op.To), slices.Clone(op.Row)
	}
	return own
}

// sees asks for all rows of a table, which have to be there.
func (x *script) sees(r *snap.Reader, name string, want ...row) {
	x.Helper()
	results, done := x.ask(r, scan(name))
	if is := answer(results, done); is != answer([]api.Result{{Rows: want}}, true) {
		x.Errorf("at the epoch %d: %s, not %s", r.Last(), brief(is), brief(want))
	}
}

// seesNone asks for a table that has not to be there.
func (x *script) seesNone(r *snap.Reader, name string) {
	x.Helper()
	for _, op := range []api.Op{get(name), get(name, num(1)), scan(name), find(name, "i", num(1)), find(name, "")} {
		results, done := x.ask(r, op)
		if done || len(results) != 1 || results[0].Code != api.ErrTable || len(results[0].Rows) != 0 {
			x.Errorf("%s at the epoch %d: %s", brief(op), r.Last(), brief(answer(results, done)))
		}
	}
}

// turns lets all that work take steps by turns, until all have ended.
func (x *script) turns() {
	x.Helper()
	for x.s.Working() > 0 {
		for w := range x.ops {
			if x.ops[w] != nil {
				x.step(w)
			}
		}
	}
}

// verify ends all that works, and holds what all queries told against the order.
func (x *script) verify() {
	x.Helper()
	x.turns()
	slices.SortStableFunc(x.deeds, func(a, b deed) int {
		if c := cmp.Compare(a.step, b.step); c != 0 || a.table == b.table {
			return c
		}
		if a.table {
			return 1
		}
		return -1
	})
	slices.SortStableFunc(x.asked, func(a, b asked) int { return cmp.Compare(a.epoch, b.epoch) })
	d, deeds := table.New(), x.deeds
	for _, q := range x.asked {
		for len(deeds) > 0 && deeds[0].epoch <= q.epoch {
			deeds[0].do(d)
			deeds = deeds[1:]
		}
		results, done, _ := d.Apply(q.ops)
		if want := answer(results, done); q.told != want {
			x.Fatalf("%s at the epoch %d: %s, not %s", brief(q.ops), q.epoch, brief(q.told), brief(want))
		}
	}
}
