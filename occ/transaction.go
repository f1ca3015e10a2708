package occ

import (
	"slices"
	"strings"

	"hopper/api"
	"hopper/key"
	"hopper/record"
	"hopper/table"
	"hopper/tid"
)

// transaction is what a worker is at. Its phases are methods; a step runs the one that is next. In each of them one record is read or written at most, or one tree is searched. Nobody waits: who meets what another one has locked is aborted.
type transaction struct {
	store          *Store
	worker, number int
	ops            []api.Op // those that were not begun yet
	next           func()
	task           task

	view    *table.Data // the rows that were read, and on top of them what the operations did: as far as these look, it is all that there is
	results []api.Result
	cells   []*cell // as they were read, or written where there was no record
	cellOf  map[place]*cell
	notes   []*note
	noteOf  map[span]*note
	held    []hold
	top     uint64 // the greatest number that was read

	writes       []*cell // by tables' names, then by keys
	fresh, stale []entry // what the writes put into indexes, and what they take out of them
	put          map[spot]struct{}
	taken        int // how many of the writes, then of the fresh entries, are locked or put in
	checked      int // how many of the notes, then of the cells, were looked at again
	cleared      int // how many of the stale entries were taken out
	installed    int // how many of the writes were done

	epoch, step             int // its place in the order
	tid                     uint64
	refused, aborted, ended bool
}

// task is what a transaction does for the operation that it is at.
type task struct {
	op     api.Op
	home   *home
	rowKey string // of the row that the operation is about, unless it looks for some
	span   span   // in which it looks for some
	spans  []span // what is to be searched
	unread []found
	latest *note  // what the last search came to
	then   func() // the phase behind all searches
}

// span is a search: the first so many keys of a shelf that are not below from, and below to (if that is empty: all that are not below from).
type span struct {
	shelf    *shelf
	from, to string
	most     int
}

// note is what a search came to. Its keys are all that there were from from to to.
type note struct {
	shelf    *shelf
	from, to string
	keys     []string
	numbers  []int
	whole    bool // nothing is left behind to
	seen     []api.Seen
	left     int
}

// found is a key and the number of its record.
type found struct {
	key    string
	number int
}

// cell is a record, as the transaction knows it. There may be none: then it is about to be made.
type cell struct {
	home    *home
	key     string
	record  *record.Record
	number  int
	word    uint64
	was     []api.Value // nil is no row
	now     []api.Value // what is to be written
	written bool
	locked  bool // by this transaction
	added   bool // by this transaction
}

type place struct {
	home *home
	key  string
}

// hold is a shelf of an index that is let go in the end.
type hold struct {
	index  *index
	values string
}

func newTransaction(s *Store, worker, number int, ops []api.Op) *transaction {
	t := &transaction{
		store: s, worker: worker, number: number, ops: ops,
		view:   table.New(),
		cellOf: map[place]*cell{},
		noteOf: map[span]*note{},
		put:    map[spot]struct{}{},
	}
	t.next = t.begin
	return t
}

// begin begins the next operation.
func (t *transaction) begin() {
	if len(t.ops) == 0 {
		t.plan()
		return
	}
	op := t.ops[0]
	t.ops = t.ops[1:]
	if code := t.store.refusal(op); code != api.OK {
		t.tell(api.Result{Code: code})
		return
	}
	h := t.store.homes[op.Table]
	t.task = task{op: op, home: h}
	// ErrThere, if an operation ahead was on this table, too.
	t.view.Create(h.schema)
	switch op.Kind {
	case api.OScan:
		t.task.span = span{h.rows, bytesOf(op.Key), bytesOf(op.To), op.Limit}
		t.seek(t.gather, t.task.span)
	case api.OFind:
		x := h.indexes[slices.IndexFunc(h.schema.Indexes, func(x api.Index) bool { return x.Name == op.Index })]
		t.task.span = span{shelf: t.hold(x, bytesOf(op.Key)), most: op.Limit}
		t.seek(t.gather, t.task.span)
	case api.OPut, api.OInsert:
		t.seekRow(h.keyOf(op.Row))
	default:
		t.seekRow(bytesOf(op.Key))
	}
}

func (t *transaction) seekRow(rowKey string) {
	t.task.rowKey = rowKey
	if len(rowKey) > api.MaxText {
		// No tree has such a key.
		t.seek(t.weigh)
		return
	}
	behind, _ := key.Next(rowKey)
	t.seek(t.weigh, span{t.task.home.rows, rowKey, behind, 1})
}

// seek has spans searched, and what they find read, ahead of the phase then.
func (t *transaction) seek(then func(), spans ...span) {
	t.task.then, t.task.spans = then, spans
	t.goOn()
}

func (t *transaction) goOn() {
	switch {
	case len(t.task.unread) > 0:
		t.next = t.read
	case len(t.task.spans) > 0:
		t.next = t.look
	default:
		t.next = t.task.then
	}
}

// look searches one span. One that was searched before is not searched again: if it came to something else, the transaction would be aborted in the end.
func (t *transaction) look() {
	x := t.task.spans[0]
	t.task.spans = t.task.spans[1:]
	n, known := t.noteOf[x]
	if !known {
		n = x.search()
		t.noteOf[x] = n
		t.notes = append(t.notes, n)
	}
	t.task.latest = n
	for at, k := range n.keys {
		if _, known := t.cellOf[place{t.task.home, k}]; !known {
			t.task.unread = append(t.task.unread, found{k, n.numbers[at]})
		}
	}
	t.goOn()
}

func (x span) search() *note {
	keys, numbers, seen, _ := x.shelf.Scan(x.from, x.to, x.most)
	n := &note{shelf: x.shelf, from: x.from, to: x.to, keys: keys, numbers: numbers, whole: len(keys) < x.most, seen: seen, left: x.shelf.left}
	if !n.whole {
		n.to, _ = key.Next(keys[len(keys)-1])
	}
	return n
}

// read reads one record that was found.
func (t *transaction) read() {
	f := t.task.unread[0]
	t.task.unread = t.task.unread[1:]
	r, there := t.task.home.records[f.number]
	if !there {
		// It was never written, and whoever had made it has been aborted.
		t.abort()
		return
	}
	row, word, e := r.Read()
	if e != api.OK {
		t.abort()
		return
	}
	c := t.addCell(f.key)
	c.record, c.number, c.word = r, f.number, word
	t.top = max(t.top, tid.Number(word))
	if len(row) > 0 {
		c.was = row
		results, _, _ := t.view.Apply([]api.Op{{Kind: api.OPut, Table: c.home.schema.Name, Row: row}})
		if results[0].Code != api.OK {
			// It clashes with rows that were read ahead: these are not what they were.
			t.abort()
			return
		}
	}
	t.goOn()
}

func (t *transaction) addCell(rowKey string) *cell {
	c := &cell{home: t.task.home, key: rowKey}
	t.cells = append(t.cells, c)
	t.cellOf[place{c.home, rowKey}] = c
	return c
}

// gather tells the rows that an operation looks for, if all that belong to them were read.
func (t *transaction) gather() {
	r := tryOn(t.view, t.task.op)
	missing := t.missing(r.Rows)
	if missing == 0 {
		t.tell(r)
		return
	}
	rest := t.task.span
	rest.from, rest.most = t.task.latest.to, missing
	t.seek(t.gather, rest)
}

// missing answers how many rows are still to be looked for behind what was searched. Those that stand ahead of that are found, as none can come between them any more.
func (t *transaction) missing(rows [][]api.Value) int {
	n := t.task.latest
	if n.whole {
		return 0
	}
	behind := func(row []api.Value) bool { return t.task.home.keyOf(row) >= n.to }
	settled := len(rows)
	if at := slices.IndexFunc(rows, behind); at >= 0 {
		settled = at
	}
	return t.task.op.Limit - settled
}

// weigh looks what an operation on one row comes to, as far as that row says, and which others it may clash with.
func (t *transaction) weigh() {
	x := &t.task
	r := tryOn(t.view, x.op)
	if r.Code != api.OK || x.op.Kind == api.OGet {
		t.tell(r)
		return
	}
	_, known := t.cellOf[place{x.home, x.rowKey}]
	switch x.op.Kind {
	case api.OPut, api.OInsert:
		if !known && !x.home.hasRoom(x.rowKey) {
			t.tell(api.Result{Code: api.ErrLong})
			return
		}
		t.seek(t.write, t.rivals(x.op.Row)...)
	case api.OAdd:
		t.seek(t.write, t.rivals(r.Rows[0])...)
	default:
		t.seek(t.write)
	}
}

// rivals are the spans in which rows lie that a row may clash with.
func (t *transaction) rivals(row []api.Value) []span {
	var spans []span
	for _, x := range t.task.home.indexes {
		if x.mayClash(row) {
			spans = append(spans, span{shelf: t.hold(x, x.entry(row)), most: api.MaxItems})
		}
	}
	return spans
}

// write does an operation on one row, in the view alone.
func (t *transaction) write() {
	x := &t.task
	results, _, _ := t.view.Apply([]api.Op{x.op})
	r := results[0]
	tookNothing := x.op.Kind == api.ODelete && len(r.Rows) == 0
	if r.Code == api.OK && !tookNothing {
		c, known := t.cellOf[place{x.home, x.rowKey}]
		if !known {
			c = t.addCell(x.rowKey)
		}
		c.written = true
	}
	t.tell(r)
}

// tell notes what an operation came to. Behind one that is refused there are no more.
func (t *transaction) tell(r api.Result) {
	t.results = append(t.results, r)
	t.next = t.begin
	if r.Code != api.OK {
		t.refused = true
		t.next = t.fix
	}
}

func (t *transaction) hold(x *index, values string) *shelf {
	t.held = append(t.held, hold{x, values})
	return x.hold(values)
}

func (t *transaction) outcome() api.Outcome {
	o := api.Outcome{Worker: t.worker, Number: t.number}
	if t.aborted {
		return o
	}
	o.Committed = !t.refused
	o.Epoch, o.Step, o.Results = t.epoch, t.step, t.results
	return o
}

// copyOps copies texts, too: one may be a piece of a longer text, all of which would be kept.
func copyOps(ops []api.Op) []api.Op {
	own := slices.Clone(ops)
	for at, op := range own {
		op.Table, op.Index = strings.Clone(op.Table), strings.Clone(op.Index)
		op.Key, op.To, op.Row = copyRow(op.Key), copyRow(op.To), copyRow(op.Row)
		own[at] = op
	}
	return own
}

func copyRow(row []api.Value) []api.Value {
	own := slices.Clone(row)
	for at, v := range own {
		own[at].S = strings.Clone(v.S)
	}
	return own
}
