package occ_test

import (
	"cmp"
	"fmt"
	"reflect"
	"slices"
	"testing"

	"hopper/api"
	"hopper/key"
	"hopper/occ"
	"hopper/table"
	"hopper/tid"
)

const (
	most    = 4096 // operations of a batch, and rows that a scan tells
	workers = 16
)

type row = []api.Value

func num(n int64) api.Value { return api.Value{Kind: api.VInt, N: n} }

func txt(s string) api.Value { return api.Value{Kind: api.VText, S: s} }

func null() api.Value { return api.Value{} }

func put(name string, r ...api.Value) api.Op { return api.Op{Kind: api.OPut, Table: name, Row: r} }

func insert(name string, r ...api.Value) api.Op {
	return api.Op{Kind: api.OInsert, Table: name, Row: r}
}

func get(name string, k ...api.Value) api.Op { return api.Op{Kind: api.OGet, Table: name, Key: k} }

func del(name string, k ...api.Value) api.Op { return api.Op{Kind: api.ODelete, Table: name, Key: k} }

func scan(name string) api.Op { return api.Op{Kind: api.OScan, Table: name, Limit: most} }

func scanFrom(name string, from, to row, limit int) api.Op {
	return api.Op{Kind: api.OScan, Table: name, Key: from, To: to, Limit: limit}
}

func find(name, index string, k ...api.Value) api.Op {
	return api.Op{Kind: api.OFind, Table: name, Index: index, Key: k, Limit: most}
}

func add(name string, at int, n int64, k ...api.Value) api.Op {
	return api.Op{Kind: api.OAdd, Table: name, Key: k, At: at, N: n}
}

// example is chapter 14's schema.
func example() api.Table {
	return api.Table{
		Name:    "t",
		Columns: []api.Column{{Name: "a", Kind: api.VInt}, {Name: "b", Kind: api.VText}},
		Key:     1,
		Indexes: []api.Index{{Name: "i", Columns: []int{1}}},
	}
}

// numbers has whole numbers alone, by an index that is unique, or not.
func numbers(name string, unique bool) api.Table {
	return api.Table{
		Name:    name,
		Columns: []api.Column{{Name: "a", Kind: api.VInt}, {Name: "b", Kind: api.VInt}},
		Key:     1,
		Indexes: []api.Index{{Name: "i", Columns: []int{1}, Unique: unique}},
	}
}

// wide has a key of two values, and indexes of many kinds: with columns of the key, with one twice, unique ones.
func wide() api.Table {
	return api.Table{
		Name: "w",
		Columns: []api.Column{
			{Name: "a", Kind: api.VInt}, {Name: "b", Kind: api.VText},
			{Name: "n", Kind: api.VInt}, {Name: "s", Kind: api.VText}, {Name: "m", Kind: api.VInt},
		},
		Key: 2,
		Indexes: []api.Index{
			{Name: "u", Columns: []int{2}, Unique: true},
			{Name: "i", Columns: []int{3}},
			{Name: "v", Columns: []int{3, 4}, Unique: true},
			{Name: "j", Columns: []int{4, 1, 4}},
			{Name: "k", Columns: []int{0}},
		},
	}
}

func brief(x any) string {
	s := fmt.Sprint(x)
	if len(s) > 400 {
		return s[:400] + ".."
	}
	return s
}

// dump is all that data tell, as text.
func dump(d *table.Data) string {
	out := ""
	for _, name := range d.Tables() {
		x, _ := d.Schema(name)
		rows, _ := d.Rows(name)
		out += fmt.Sprintln(x, rows)
		for _, i := range x.Indexes {
			list, _ := d.Index(name, i.Name)
			out += fmt.Sprintln(i.Name, list)
		}
	}
	return out
}

func newStore(t *testing.T, many int, tables ...api.Table) *occ.Store {
	t.Helper()
	s, e := occ.New(many)
	if e != api.OK || s == nil {
		t.Fatalf("New %d: %d", many, e)
	}
	for _, x := range tables {
		if e := s.Create(x); e != api.OK {
			t.Fatalf("Create %s: %d", x.Name, e)
		}
	}
	return s
}

// A script runs a store, and keeps all that it tells; in the end that is held against chapter 15, one after the other.
type script struct {
	*testing.T
	s      *occ.Store
	many   int
	at     []*work // of each worker, nil if it is idle
	begun  []*work
	ended  []*work       // since Entries was last called
	tables []made        // created and dropped
	told   [][]api.Entry // by Entries
	tellOf [][]*work     // whose they are to be
	past   map[int]string
	keys   map[string]bool // tables' names with keys
	schema map[string]api.Table
}

// work is a transaction, as the script saw it.
type work struct {
	ops         []api.Op
	worker      int
	firstStep   int // steps ahead of it
	firstEpoch  int
	lastStep    int // steps behind it
	lastEpoch   int
	steps       int // of its own
	keys        int // how many there had been when it ended
	amongWrites bool
	out         api.Outcome
	over        bool
	writes      []api.Write // those that it has to have, if it is committed
}

// made is a table that was created, or dropped.
type made struct {
	step, epoch int
	table       api.Table
	drop        bool
}

func newScript(t *testing.T, many int, tables ...api.Table) *script {
	t.Helper()
	x := &script{T: t, s: newStore(t, many), many: many, at: make([]*work, many), past: map[int]string{}, keys: map[string]bool{}, schema: map[string]api.Table{}}
	for _, y := range tables {
		x.create(y)
	}
	return x
}

func (x *script) create(y api.Table) {
	x.Helper()
	if e := x.s.Create(y); e != api.OK {
		x.Fatalf("Create %s: %d", y.Name, e)
	}
	x.schema[y.Name] = y
	x.tables = append(x.tables, made{x.s.Steps(), x.s.Epoch(), y, false})
}

func (x *script) drop(name string) {
	x.Helper()
	if e := x.s.Drop(name); e != api.OK {
		x.Fatalf("Drop %s: %d", name, e)
	}
	delete(x.schema, name)
	x.tables = append(x.tables, made{x.s.Steps(), x.s.Epoch(), api.Table{Name: name}, true})
}

func onlyReads(ops []api.Op) bool {
	return !slices.ContainsFunc(ops, func(op api.Op) bool {
		return op.Kind != api.OGet && op.Kind != api.OScan && op.Kind != api.OFind
	})
}

func (x *script) begin(w int, ops ...api.Op) *work {
	x.Helper()
	n, e := x.s.Begin(w, ops)
	if n != len(x.begun) || e != api.OK {
		x.Fatalf("Begin %d: %d %d, not %d", w, n, e, len(x.begun))
	}
	b := &work{ops: slices.Clone(ops), worker: w, firstStep: x.s.Steps(), firstEpoch: x.s.Epoch()}
	for _, other := range x.at {
		if other != nil {
			b.amongWrites = b.amongWrites || !onlyReads(other.ops)
			other.amongWrites = other.amongWrites || !onlyReads(ops)
		}
	}
	x.at[w] = b
	x.begun = append(x.begun, b)
	for _, op := range ops {
		if k, fits := x.keyOf(op); fits {
			x.keys[k] = true
		}
	}
	return b
}

// keyOf tells of which row an operation is, with its table's name ahead.
func (x *script) keyOf(op api.Op) (string, bool) {
	y, there := x.schema[op.Table]
	list := op.Key
	switch {
	case !there || op.Kind == api.OScan || op.Kind == api.OFind:
		return "", false
	case op.Kind == api.OPut || op.Kind == api.OInsert:
		if len(op.Row) < y.Key {
			return "", false
		}
		list = op.Row[:y.Key]
	}
	k, e := key.Encode(list)
	return op.Table + " " + k, e == api.OK
}

// step takes one step of a worker that works, and tells whether its transaction has ended.
func (x *script) step(w int) bool {
	x.Helper()
	b := x.at[w]
	before := x.s.Steps()
	done, o, e := x.s.Step(w)
	if e != api.OK || x.s.Steps() != before+1 {
		x.Fatalf("Step %d: %d, %d steps behind %d", w, e, x.s.Steps(), before)
	}
	b.steps++
	if bound := 20 + 20*(len(b.ops)+1)*(len(x.keys)+1); b.steps > bound {
		x.Fatalf("%s has not ended behind %d steps", brief(b.ops), bound)
	}
	if !done {
		if !reflect.DeepEqual(o, api.Outcome{}) {
			x.Fatalf("Step %d: %s, and it has not ended", w, brief(o))
		}
		return false
	}
	b.out, b.over, b.lastStep, b.lastEpoch, b.keys = o, true, x.s.Steps(), x.s.Epoch(), len(x.keys)
	x.at[w] = nil
	x.ended = append(x.ended, b)
	x.ending(b)
	return true
}

// ending holds what is to be seen of an outcome alone (16.3, 16.5).
func (x *script) ending(b *work) {
	x.Helper()
	o := b.out
	if o.Worker != b.worker || x.begun[o.Number] != b {
		x.Fatalf("%s of the worker %d", brief(o), b.worker)
	}
	if done, o, e := x.s.Step(b.worker); done || !reflect.DeepEqual(o, api.Outcome{}) || e != api.ErrWorker {
		x.Fatalf("Step of one that is idle: %t %s %d", done, brief(o), e)
	}
	if o.Step == 0 {
		if !b.amongWrites {
			x.Fatalf("aborted, and nobody else has written: %s", brief(b.ops))
		}
		if o.Committed || o.Epoch != 0 || len(o.Results) != 0 {
			x.Fatalf("aborted: %s", brief(o))
		}
		return
	}
	if o.Step <= b.firstStep || o.Step > b.lastStep || o.Epoch < b.firstEpoch || o.Epoch > b.lastEpoch {
		x.Fatalf("Step %d, Epoch %d of one from %d to %d, from %d to %d", o.Step, o.Epoch, b.firstStep, b.lastStep, b.firstEpoch, b.lastEpoch)
	}
	for i, r := range o.Results {
		if last := i == len(o.Results)-1; r.Code != api.OK && (o.Committed || !last) {
			x.Fatalf("%s: the Code %d at %d", brief(o), r.Code, i)
		}
	}
	n := len(o.Results)
	if o.Committed && n != len(b.ops) || !o.Committed && (n == 0 || o.Results[n-1].Code == api.OK) {
		x.Fatalf("%d operations: %s", len(b.ops), brief(o))
	}
}

// run takes steps of one worker until its transaction has ended.
func (x *script) run(w int) api.Outcome {
	x.Helper()
	b := x.at[w]
	for !x.step(w) {
	}
	return b.out
}

// do runs a batch from its beginning to its end.
func (x *script) do(w int, ops ...api.Op) api.Outcome {
	x.Helper()
	x.begin(w, ops...)
	return x.run(w)
}

// done is do of a batch that has to be committed.
func (x *script) done(w int, ops ...api.Op) []api.Result {
	x.Helper()
	o := x.do(w, ops...)
	if !o.Committed {
		x.Fatalf("%s: %s", brief(ops), brief(o))
	}
	return o.Results
}

// turns lets all that work take steps by turns, until all have ended.
func (x *script) turns() {
	x.Helper()
	for x.s.Working() > 0 {
		for w := range x.at {
			if x.at[w] != nil {
				x.step(w)
			}
		}
	}
}

// entries calls Entries; what it tells is looked at in the end.
func (x *script) entries() []api.Entry {
	list := x.s.Entries()
	x.told = append(x.told, list)
	x.tellOf = append(x.tellOf, x.ended)
	x.ended = nil
	return list
}

// look asks for the data of a past epoch; they have to be told the same ever after.
func (x *script) look(epoch int) {
	x.Helper()
	d, e := x.s.AsOf(epoch)
	if e != api.OK || d == nil {
		x.Fatalf("AsOf %d: %d", epoch, e)
	}
	text := dump(d)
	if was, there := x.past[epoch]; there && was != text {
		x.Fatalf("AsOf %d: %s, not %s", epoch, brief(text), brief(was))
	}
	x.past[epoch] = text
}

// verify ends all that works, and holds all that was told against chapter 15's Apply, one after the other in the order.
func (x *script) verify() {
	x.Helper()
	x.turns()
	x.entries()
	if more := x.s.Entries(); len(more) != 0 {
		x.Fatalf("Entries told again: %s", brief(more))
	}
	order := []*work{}
	for _, b := range x.begun {
		if b.out.Step > 0 {
			order = append(order, b)
		}
	}
	slices.SortFunc(order, func(a, b *work) int { return cmp.Compare(a.out.Step, b.out.Step) })
	d, tables := table.New(), x.tables
	step, epoch := 0, 0
	pass := func(to int) {
		// All of the epochs below have come.
		for ; epoch < to; epoch++ {
			x.holdsAt(epoch, d)
		}
	}
	for _, b := range order {
		for len(tables) > 0 && tables[0].step < b.out.Step {
			pass(tables[0].epoch)
			x.make(d, tables[0])
			tables = tables[1:]
		}
		if b.out.Step == step || b.out.Epoch < epoch {
			x.Fatalf("Step %d, Epoch %d behind Step %d, Epoch %d", b.out.Step, b.out.Epoch, step, epoch)
		}
		pass(b.out.Epoch)
		step = b.out.Step
		x.applied(d, b)
	}
	for _, m := range tables {
		pass(m.epoch)
		x.make(d, m)
	}
	pass(x.s.Epoch() + 1)
	x.entriesHold()
}

func (x *script) make(d *table.Data, m made) {
	x.Helper()
	e := api.OK
	if m.drop {
		e = d.Drop(m.table.Name)
	} else {
		e = d.Create(m.table)
	}
	if e != api.OK {
		x.Fatalf("in the order %s is not made: %d", m.table.Name, e)
	}
}

func (x *script) holdsAt(epoch int, d *table.Data) {
	x.Helper()
	x.look(epoch)
	if want := dump(d); x.past[epoch] != want {
		x.Fatalf("AsOf %d: %s, not %s", epoch, x.past[epoch], want)
	}
}

// applied does a batch in the order, and keeps what it wrote.
func (x *script) applied(d *table.Data, b *work) {
	x.Helper()
	results, done, _ := d.Apply(b.ops)
	if done != b.out.Committed || !sameResults(results, b.out.Results) {
		x.Fatalf("%s at the step %d: %s %t, not %s %t", brief(b.ops), b.out.Step, brief(b.out.Results), b.out.Committed, brief(results), done)
	}
	if !done {
		return
	}
	wrote := map[string]api.Write{}
	for i, op := range b.ops {
		switch op.Kind {
		case api.OGet, api.OScan, api.OFind:
			continue
		case api.ODelete:
			if len(results[i].Rows) == 0 {
				continue
			}
		}
		y, _ := d.Schema(op.Table)
		list := op.Key
		if op.Kind == api.OPut || op.Kind == api.OInsert {
			list = op.Row[:y.Key]
		}
		k, _ := key.Encode(list)
		now, _, _ := d.Apply([]api.Op{get(op.Table, list...)})
		w := api.Write{Table: op.Table, Key: k, Gone: true}
		if len(now[0].Rows) > 0 {
			w.Gone, w.Row = false, now[0].Rows[0]
		}
		wrote[op.Table+" "+k] = w
	}
	for _, w := range wrote {
		b.writes = append(b.writes, w)
	}
	slices.SortFunc(b.writes, func(a, b api.Write) int {
		return cmp.Or(cmp.Compare(a.Table, b.Table), cmp.Compare(a.Key, b.Key))
	})
}

// entriesHold holds all that Entries told against what was written (16.7).
func (x *script) entriesHold() {
	x.Helper()
	byStep := map[int]api.Entry{}
	for i, list := range x.told {
		var want []*work
		for _, b := range x.tellOf[i] {
			if b.out.Committed && len(b.writes) > 0 {
				want = append(want, b)
			}
		}
		slices.SortFunc(want, func(a, b *work) int { return cmp.Compare(a.out.Step, b.out.Step) })
		if len(list) != len(want) {
			x.Fatalf("Entries: %s, not %d", brief(list), len(want))
		}
		for j, b := range want {
			epoch, _, locked, absent, latest, e := tid.Unpack(list[j].Tid)
			if epoch != b.out.Epoch || locked || absent || latest || e != api.OK || !sameWrites(list[j].Writes, b.writes) {
				x.Fatalf("Entries: %s, not %s at %d", brief(list[j]), brief(b.writes), b.out.Epoch)
			}
			byStep[b.out.Step] = list[j]
		}
	}
	x.tidsRise(byStep)
}

func (x *script) tidsRise(byStep map[int]api.Entry) {
	x.Helper()
	workerOf := map[int]int{}
	var steps []int
	for _, b := range x.begun {
		if _, there := byStep[b.out.Step]; there {
			workerOf[b.out.Step] = b.worker
			steps = append(steps, b.out.Step)
		}
	}
	slices.Sort(steps)
	ofKey, ofWorker := map[string]uint64{}, map[int]uint64{}
	for _, step := range steps {
		entry, w := byStep[step], workerOf[step]
		if last, there := ofWorker[w]; there && entry.Tid <= last {
			x.Fatalf("the worker %d: Tid %d behind %d", w, entry.Tid, last)
		}
		ofWorker[w] = entry.Tid
		for _, write := range entry.Writes {
			k := write.Table + " " + write.Key
			if last, there := ofKey[k]; there && entry.Tid <= last {
				x.Fatalf("the key %q: Tid %d behind %d", k, entry.Tid, last)
			}
			ofKey[k] = entry.Tid
		}
	}
}

func sameRow(a, b row) bool { return slices.Equal(a, b) && fmt.Sprint(a) == fmt.Sprint(b) }

func sameRows(a, b []row) bool { return slices.EqualFunc(a, b, sameRow) }

func sameResults(a, b []api.Result) bool {
	return slices.EqualFunc(a, b, func(a, b api.Result) bool { return a.Code == b.Code && sameRows(a.Rows, b.Rows) })
}

func sameWrites(a, b []api.Write) bool {
	return slices.EqualFunc(a, b, func(a, b api.Write) bool {
		return a.Table == b.Table && a.Key == b.Key && a.Gone == b.Gone && sameRow(a.Row, b.Row)
	})
}
