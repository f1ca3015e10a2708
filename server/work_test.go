package server_test

import (
	"math"
	"slices"
	"testing"

	"hopper/api"
	"hopper/disk"
	"hopper/table"
	"hopper/tpcc"
	"hopper/wal"
)

// 27.3: Work and Advance, and how each request ends.

func TestWorkersThatAreNotThere(t *testing.T) {
	for _, workers := range []int{1, 2, api.MaxWorkers} {
		x := opens(t, disk.New(), workers, 4)
		c := x.letIn()
		x.asks(c, batch(1), drop(2, "t"))
		for range 3 {
			for _, w := range []int{-1, workers, workers + 1, math.MinInt, math.MaxInt} {
				if e := x.s.Work(w); e != api.ErrWorker {
					t.Error(workers, w, e)
				}
				x.state()
			}
			x.work(workers - 1)
		}
		x.run()
		x.holds()
	}
}

// An idle worker without anything to do does nothing.
func TestWorkOfNothing(t *testing.T) {
	x := opens(t, disk.New(), 2, 4)
	c := x.letIn()
	x.work(0)
	x.work(1)
	if done := x.did(c, create(1, plain("t"))); done.Out.Step != 0 {
		t.Error("these were no steps", done.Out.Step)
	}
	for range 5 {
		x.work(1)
	}
	x.does(c, batch(2, put("t", num(1), num(1))))
	steps := x.steps
	x.work(0)
	if done := x.did(c, drop(3, "t")); done.Out.Step != steps {
		t.Error(done.Out.Step, steps)
	}
}

// toil lets a worker take what waits first, and a step of it.
func (x *served) toil(w int) {
	x.Helper()
	queued := len(x.queue)
	x.work(w)
	if len(x.queue) != queued-1 || x.at[w] == nil {
		x.Fatal("it is at none")
	}
	x.work(w)
	if x.at[w] == nil {
		x.Fatal("it has ended")
	}
}

func TestWhatMustWait(t *testing.T) {
	for _, r := range []api.Request{create(3, plain("u")), drop(3, "t"), call(3, "low", 1, 1, 20)} {
		x := opens(t, books(t, 3), 3, 9)
		c, other := x.letIn(), x.letIn()
		x.does(c, create(1, plain("t")))
		x.asks(c, batch(2, put("t", num(1), num(1))))
		x.toil(1)
		x.asks(c, r)
		x.asks(other, query(4), batch(5, get("t", num(1))))
		// Nobody takes it, and nobody what waits behind it, but who is at a transaction goes on.
		for range 5 {
			x.work(0)
			x.work(2)
			if len(x.queue) != 3 || x.working() != 1 {
				t.Fatal(r.Kind)
			}
		}
		for x.at[1] != nil {
			x.work(1)
			if x.at[1] != nil {
				x.work(0)
			}
		}
		if done, ended := x.work(2); !ended || done.X.Id != 3 {
			t.Error(r.Kind)
		}
		if done, ended := x.work(0); !ended || done.X.Id != 4 {
			t.Error(r.Kind)
		}
		x.toil(1)
		x.run()
		x.holds()
	}
}

// Batches and queries begin, whoever is at a transaction.
func TestWhatNeedNotWait(t *testing.T) {
	x := opens(t, saved(t, dataOf(plain("t"), 1, 1, 2, 2, 3, 3), 5), 4, 9)
	c := x.letIn()
	x.asks(c, batch(1, add("t", 1, 1, num(1))), batch(2, add("t", 1, 1, num(2))), query(3, scan("t")), batch(4, add("t", 1, 1, num(3))), query(5, scan("t")))
	x.toil(0)
	x.toil(1)
	if done, ended := x.work(2); !ended || done.X.Id != 3 || len(done.Out.Results[0].Rows) != 3 {
		t.Error(lookOfDone(done))
	}
	x.toil(2)
	if done, ended := x.work(3); !ended || done.X.Id != 5 {
		t.Error(lookOfDone(done))
	}
	if x.working() != 3 {
		t.Error(x.working())
	}
	x.ends()
	x.holds()
	if d, _ := x.s.AsOf(x.epoch); lookOf(d) != lookOf(dataOf(plain("t"), 1, 2, 2, 3, 3, 4)) {
		t.Error(lookOf(d))
	}
}

// isOutcome looks at all of an outcome but the Step of a batch, which is the store's.
func isOutcome(t *testing.T, done api.Done, committed bool, epoch int, results ...api.Result) {
	t.Helper()
	o := done.Out
	if o.Committed != committed || o.Epoch != epoch || lookOfResults(o.Results) != lookOfResults(results) {
		t.Errorf("%s; not %v, %d, %s", lookOfDone(done), committed, epoch, lookOfResults(results))
	}
}

func rowsOf(list ...row) api.Result { return api.Result{Rows: list} }

func code(e api.Errno) api.Result { return api.Result{Code: e} }

func TestBatchesThatCommit(t *testing.T) {
	x := opens(t, saved(t, dataOf(plain("t"), 1, 10, 2, 20), 7), 2, 4)
	c := x.letIn()
	isOutcome(t, x.did(c, batch(1)), true, 9)
	done := x.did(c, batch(2, get("t", num(1)), put("t", nums(1, 11)...), insert("t", nums(3, 30)...), del("t", num(2)), scan("t"), add("t", 1, 5, num(3))))
	isOutcome(t, done, true, 9, rowsOf(nums(1, 10)), code(api.OK), code(api.OK), rowsOf(nums(2, 20)), rowsOf(nums(1, 11), nums(3, 30)), rowsOf(nums(3, 35)))
	x.advance()
	isOutcome(t, x.did(c, batch(3, get("t", num(2)))), true, 10, rowsOf())
	var many []api.Op
	for n := range int64(500) {
		many = append(many, get("t", num(n)))
	}
	if done := x.does(c, batch(4, many...)); len(done.Out.Results) != 500 {
		t.Error(len(done.Out.Results))
	}
	x.ends()
	x.holds()
}

func TestBatchesThatAreRefused(t *testing.T) {
	data := dataOf(plain("t"), 1, 10, 2, 20)
	data.Create(indexed("u"))
	data.Apply([]api.Op{put("u", num(1), txt("x")), put("t", num(5), null()), put("t", nums(6, math.MaxInt64)...)})
	x := opens(t, saved(t, data, 7), 2, 4)
	c := x.letIn()
	for id, y := range []struct {
		op   api.Op
		want api.Errno
	}{
		{get("nobody", num(1)), api.ErrTable},
		{get("t", txt("x")), api.ErrRow},
		{put("t", num(1)), api.ErrRow},
		{put("u", num(2), txt("x")), api.ErrUnique},
		{insert("t", nums(1, 1)...), api.ErrThere},
		{insert("t", null(), num(1)), api.ErrRow},
		{del("t"), api.ErrRow},
		{api.Op{Kind: api.OScan, Table: "t"}, api.ErrRange},
		{api.Op{Kind: api.OScan, Table: "t", Limit: api.MaxItems + 1}, api.ErrRange},
		{find("t", "i", num(1)), api.ErrNone},
		{find("u", "i", num(1)), api.ErrRow},
		{add("t", 0, 1, num(1)), api.ErrRow},
		{add("t", 1, 1, num(9)), api.ErrNone},
		{add("t", 1, 1, num(5)), api.ErrRow},
		{add("t", 1, 1, num(6)), api.ErrRange},
		{api.Op{Kind: 99, Table: "t"}, api.ErrProgram},
		{api.Op{}, api.ErrProgram},
	} {
		x.asks(c, batch(3*id, put("t", nums(2, 99)...), get("t", num(1)), y.op, put("t", nums(3, 3)...)))
		x.run()
		done := x.ended[len(x.ended)-1]
		isOutcome(t, done, false, x.epoch, code(api.OK), rowsOf(nums(1, 10)), code(y.want))
		isOutcome(t, x.did(c, batch(3*id+1, y.op)), false, x.epoch, code(y.want))
		x.advance()
		x.flush()
		x.gets(c, replyTo(done), replyTo(x.ended[len(x.ended)-1]))
	}
	x.holds()
	if d, _ := x.s.AsOf(x.epoch); lookOf(d) != lookOf(data) {
		t.Error("something has changed")
	}
}

// aborts lets two workers raise the same number until one is aborted, and answers the Id of that one.
func (x *served) aborts(c, id int) api.Done {
	x.Helper()
	for ; ; id += 2 {
		before := len(x.ended)
		x.asks(c, batch(id, add("t", 1, 1, num(1)), get("t", num(2))), batch(id+1, add("t", 1, 1, num(1)), get("t", num(2))))
		x.run()
		if at := slices.IndexFunc(x.ended[before:], isAborted); at >= 0 {
			return x.ended[before+at]
		}
		if len(x.ended) > 100 {
			x.Fatal("nobody is aborted")
		}
	}
}

func TestBatchesThatAreAborted(t *testing.T) {
	x := opens(t, saved(t, dataOf(plain("t"), 1, 10, 2, 20), 7), 2, 4)
	c := x.letIn()
	done := x.aborts(c, 1)
	if o := done.Out; o.Committed || o.Epoch != 0 || o.Step != 0 || len(o.Results) != 0 {
		t.Error(lookOfDone(done))
	}
	// It is told at once; the other one's reply waits.
	x.gets(c, api.Reply{Kind: api.PError, Id: done.X.Id, Code: api.ErrLocked})
	x.ends()
	x.takes(c)
	x.holds()
}

func TestQueries(t *testing.T) {
	x := opens(t, saved(t, dataOf(plain("t"), 1, 10, 2, 20), 7), 2, 4)
	c := x.letIn()
	x.does(c, batch(1, put("t", nums(3, 30)...)))
	isOutcome(t, x.did(c, query(2)), true, 7)
	isOutcome(t, x.did(c, query(3, get("t", num(1)), scan("t"))), true, 7, rowsOf(nums(1, 10)), rowsOf(nums(1, 10), nums(2, 20)))
	isOutcome(t, x.did(c, query(4, get("t", num(1)), get("nobody", num(1)), get("t", num(1)))), false, 7, rowsOf(nums(1, 10)), code(api.ErrTable))
	isOutcome(t, x.did(c, query(5, find("t", "i"))), false, 7, code(api.ErrNone))
	isOutcome(t, x.did(c, query(6, api.Op{Kind: api.OScan, Table: "t"})), false, 7, code(api.ErrRange))
	for id, op := range []api.Op{put("t", nums(1, 1)...), insert("t", nums(1, 1)...), del("t", num(1)), add("t", 1, 1, num(1)), {}, {Kind: -1, Table: "t"}, {Kind: 8}} {
		isOutcome(t, x.did(c, query(10+id, get("t", num(1)), op)), false, 0, code(api.ErrProgram))
	}
	x.advance()
	x.advance()
	isOutcome(t, x.did(c, query(20, get("t", num(3)))), true, 9, rowsOf(nums(3, 30)))
	x.ends()
	x.holds()
}

// Ahead of the first epoch that anything was done at there is nothing.
func TestQueriesOfANewDisk(t *testing.T) {
	x := opens(t, disk.New(), 1, 9)
	c := x.letIn()
	x.does(c, create(1, plain("t")))
	isOutcome(t, x.did(c, query(2, scan("t"))), false, 0, code(api.ErrTable))
	isOutcome(t, x.did(c, query(3)), true, 0)
	x.gets(c, api.Reply{Kind: api.PDone, Id: 2, Code: api.ErrTable, Results: []api.Result{code(api.ErrTable)}}, api.Reply{Kind: api.PDone, Id: 3})
	x.advance()
	isOutcome(t, x.did(c, query(4, scan("t"))), false, 1, code(api.ErrTable))
	x.advance()
	isOutcome(t, x.did(c, query(5, scan("t"))), true, 2, rowsOf())
	x.ends()
	x.holds()
}

func TestTablesThatComeAndGo(t *testing.T) {
	x := opens(t, disk.New(), 2, 4)
	c := x.letIn()
	bad := plain("t")
	bad.Key = 3
	isOutcome(t, x.did(c, create(1, bad)), false, 2, code(api.ErrSchema))
	isOutcome(t, x.did(c, drop(2, "t")), false, 2, code(api.ErrTable))
	isOutcome(t, x.did(c, create(3, plain("t"))), true, 2, code(api.OK))
	isOutcome(t, x.did(c, create(4, plain("t"))), false, 2, code(api.ErrThere))
	isOutcome(t, x.did(c, create(5, indexed("t"))), false, 2, code(api.ErrThere))
	x.does(c, batch(6, put("t", nums(1, 1)...)))
	x.advance()
	isOutcome(t, x.did(c, drop(7, "t")), true, 3, code(api.OK))
	isOutcome(t, x.did(c, drop(8, "t")), false, 3, code(api.ErrTable))
	isOutcome(t, x.did(c, create(9, plain("t"))), true, 3, code(api.OK))
	isOutcome(t, x.did(c, batch(10, scan("t"))), true, 3, rowsOf())
	for _, done := range x.ended[7:9] {
		if done.Out.Step != x.ended[6].Out.Step || done.Out.Step == 0 {
			t.Error(lookOfDone(done))
		}
	}
	x.ends()
	x.holds()
	x.crashes(1, 1)
}

func TestCallsOfTheBooks(t *testing.T) {
	x := opens(t, books(t, 4), 2, 9)
	c := x.letIn()
	isOutcome(t, x.did(c, call(1, "new", 1, 1, 1, 2, 1, 3)), true, 6, rowsOf(nums(1, 606)))
	isOutcome(t, x.did(c, call(2, "state", 1, 1, 1)), true, 6, rowsOf(nums(0), nums(1, 0, 1), nums(2, 1, 3, 603)))
	x.advance()
	isOutcome(t, x.did(c, call(3, "bring", 1, 7)), true, 7, rowsOf(nums(1, 1)))
	isOutcome(t, x.did(c, call(4, "bring", 1, 7)), true, 7, rowsOf())
	isOutcome(t, x.did(c, call(5, "pay", 1, 1, 1, 500)), true, 7, rowsOf(nums(103)))
	isOutcome(t, x.did(c, call(6, "low", 1, 1, 50)), true, 7, rowsOf(nums(1)))
	for id, y := range []struct {
		r    api.Request
		want api.Errno
	}{
		{call(0, "none", 1, 1, 1), api.ErrProgram},
		{call(0, ""), api.ErrProgram},
		{call(0, "pay", 1, 1, 1), api.ErrProgram},
		{call(0, "pay", 1, 1, 1, 0), api.ErrProgram},
		{call(0, "pay", 2, 1, 1, 5), api.ErrNone},
		{call(0, "new", 1, 1, 1, 1, 1, 1, 99, 1, 1), api.ErrItem},
		{call(0, "state", 1, 1, 99), api.ErrNone},
	} {
		y.r.Id = 10 + id
		done := x.did(c, y.r)
		if done.Out.Committed || done.Out.Epoch != 7 || len(done.Out.Results) != 1 || len(done.Out.Results[0].Rows) != 0 || done.Out.Results[0].Code == api.OK {
			t.Error(lookOfDone(done))
		}
		if y.want != api.ErrProgram || y.r.Name == "none" || y.r.Name == "" {
			isOutcome(t, done, false, 7, code(y.want))
		}
	}
	// Between transactions: their rows and those of calls are the same.
	isOutcome(t, x.did(c, batch(20, get("customer", nums(1, 1, 1)...))), true, 7, rowsOf(nums(1, 1, 1, 100, 103, 500, 1)))
	x.does(c, batch(21, del("fresh", nums(1, 1, 1)...), put("house", nums(1, 100, 0)...)))
	x.did(c, call(22, "pay", 1, 2, 1, 7))
	x.does(c, drop(23, "line"))
	isOutcome(t, x.did(c, call(24, "pay", 1, 2, 1, 7)), false, 7, code(api.ErrTable))
	x.ends()
	x.holds()
	x.takes(c)
	x.crashes(1, 1, 3)
}

// A call is no step: what is behind it has the next one.
func TestCallsAreNoSteps(t *testing.T) {
	x := opens(t, books(t, 4), 2, 9)
	c := x.letIn()
	for n := range 5 {
		if done := x.does(c, call(n, "new", 1, 1, 1, 2, 1, 3)); done.Out.Step != x.steps {
			t.Error(done.Out.Step, x.steps)
		}
		if done := x.does(c, batch(10+n, get("house", num(1)))); done.Out.Step <= x.ended[len(x.ended)-2].Out.Step || done.Out.Step > x.steps {
			t.Error(lookOfDone(done), x.steps)
		}
	}
	x.holds()
}

// A log tells of the rows that a call has changed, not of those that it has left.
func TestCallsWriteWhatTheyChange(t *testing.T) {
	x := opens(t, books(t, 4), 1, 9)
	c := x.letIn()
	many := []int{}
	for id, r := range []api.Request{
		call(1, "pay", 1, 1, 1, 500),              // house, district, customer
		call(2, "new", 1, 1, 1, 2, 1, 3),          // district, orders, fresh, and a line and an item of the store
		call(3, "new", 1, 1, 1, 2, 1, 1, 1, 1, 1), // and one more of each
		call(4, "low", 1, 1, 50),
		call(5, "pay", 1, 1, 99, 500),
	} {
		before := x.logged(t)
		r.Id = id
		x.did(c, r)
		many = append(many, x.logged(t)-before)
	}
	if !slices.Equal(many, []int{3, 5, 7, 0, 0}) {
		t.Error(many)
	}
	x.ends()
	x.holds()
	x.crashes(1, 1)
}

// logged is how many rows the logs tell of.
func (x *served) logged(t *testing.T) (n int) {
	t.Helper()
	x.advance()
	x.flush()
	entries, _, e := wal.Load(copied(x.d))
	if e != api.OK {
		t.Fatal(e)
	}
	for _, y := range entries {
		n += len(y.Writes)
	}
	return n
}

// Books that others have changed, with more rows than a batch may have operations for.
func TestACallThatChangesMuch(t *testing.T) {
	data := table.New()
	tpcc.Load(data, 1, 1, 1, 1)
	for many, at := int64(1500), int64(2); at <= many; at++ {
		data.Apply([]api.Op{
			put("district", nums(1, at, 0, 0, 2)...), put("customer", nums(1, at, 1, 0, 0, 0, 0)...), put("orders", nums(1, at, 1, 1, 1, 0)...),
			put("fresh", nums(1, at, 1)...), put("line", nums(1, at, 1, 1, 1, 1, 1, 101)...),
		})
	}
	x := opens(t, saved(t, data, 4), 1, 9)
	c := x.letIn()
	done := x.does(c, call(1, "bring", 1, 7))
	if len(done.Out.Results[0].Rows) != 1499 {
		t.Error(len(done.Out.Results[0].Rows))
	}
	x.holds()
	x.advance()
	if e := x.s.Flush(); e != api.OK || x.s.Durable() != 6 {
		t.Fatal(e, x.s.Durable())
	}
	x.becameDurable(6)
	x.takes(c)
	x.crashes(1, 1)
}

// A call that the store has no room for, since a table has had too many keys, changes nothing.
func TestACallWithoutRoom(t *testing.T) {
	data := table.New()
	tpcc.Load(data, 1, 1, 1, 1)
	data.Apply([]api.Op{put("district", nums(1, 1, 0, 0, 9999)...)})
	for o := range int64(api.MaxItems) {
		data.Apply([]api.Op{put("orders", nums(1, 1, o+1, 1, 0, 1)...)})
	}
	x := opens(t, saved(t, data, 4), 1, 9)
	c := x.letIn()
	x.does(c, batch(1, del("orders", nums(1, 1, 1)...)))
	before, _ := x.s.AsOf(x.epoch)
	isOutcome(t, x.did(c, call(2, "new", 1, 1, 1, 1, 1, 1)), false, 6, code(api.ErrLong))
	if after, _ := x.s.AsOf(x.epoch); lookOf(after) != lookOf(before) {
		t.Error("something has changed")
	}
	if done := x.does(c, call(3, "pay", 1, 1, 1, 5)); done.Out.Step != x.steps {
		t.Error(done.Out.Step, x.steps)
	}
	x.ends()
	x.takes(c)
}

func TestAdvance(t *testing.T) {
	x := opens(t, disk.New(), 3, 9)
	c := x.letIn()
	x.does(c, create(1, plain("t")))
	for range 5 {
		if !x.advance() {
			t.Fatal("nobody stands in the way")
		}
	}
	x.asks(c, batch(2, put("t", nums(1, 1)...)), batch(3, put("t", nums(2, 2)...)))
	x.toil(0)
	if !x.advance() || x.advance() || x.advance() {
		t.Error("one more, and then none")
	}
	// Who began behind it stands in the way of the next one alone.
	x.toil(1)
	if x.advance() {
		t.Error("the first one is there still")
	}
	for x.at[0] != nil {
		x.work(0)
	}
	if !x.advance() || x.advance() {
		t.Error("the second one")
	}
	x.run()
	if !x.advance() {
		t.Error("nobody")
	}
	x.ends()
	x.holds()
}
