package occ_test

import (
	"fmt"
	"math"
	"reflect"
	"slices"
	"strings"
	"testing"

	"hopper/api"
	"hopper/occ"
)

// extremes are numbers that are no worker's, nor an epoch's that has come.
func extremes() []int {
	return []int{-1, -2, math.MinInt, math.MinInt + 1, math.MaxInt, math.MaxInt - 1, math.MinInt32, math.MaxInt32, 1 << 32, -1 << 32}
}

// state is all of a store that can be seen without changing it.
func state(s *occ.Store) string {
	out := fmt.Sprintln(s.Epoch(), s.Snapshot(), s.Working(), s.Steps())
	for epoch := range s.Epoch() + 1 {
		if d, e := s.AsOf(epoch); e == api.OK {
			out += dump(d)
		}
	}
	return out
}

func same(t *testing.T, s *occ.Store, before string) {
	t.Helper()
	if now := state(s); now != before {
		t.Errorf("changed: %s, not %s", brief(now), brief(before))
	}
}

func counts(t *testing.T, s *occ.Store, epoch, snapshot, working, steps int) {
	t.Helper()
	if s.Epoch() != epoch || s.Snapshot() != snapshot || s.Working() != working || s.Steps() != steps {
		t.Errorf("epoch %d, snapshot %d, working %d, steps %d, not %d, %d, %d, %d", s.Epoch(), s.Snapshot(), s.Working(), s.Steps(), epoch, snapshot, working, steps)
	}
}

func up(t *testing.T, s *occ.Store, want bool) {
	t.Helper()
	if is := s.Advance(); is != want {
		t.Errorf("Advance: %t at the epoch %d", is, s.Epoch())
	}
}

func begin(t *testing.T, s *occ.Store, w int, ops []api.Op, number int, code api.Errno) {
	t.Helper()
	if n, e := s.Begin(w, ops); n != number || e != code {
		t.Errorf("Begin %d: %d %d, not %d %d", w, n, e, number, code)
	}
}

func noStep(t *testing.T, s *occ.Store, w int) {
	t.Helper()
	if done, o, e := s.Step(w); done || !reflect.DeepEqual(o, api.Outcome{}) || e != api.ErrWorker {
		t.Errorf("Step %d: %t %s %d", w, done, brief(o), e)
	}
}

// 16.1

func TestNew(t *testing.T) {
	for _, n := range append(extremes(), 0, api.MaxWorkers+1, api.MaxWorkers+2) {
		if s, e := occ.New(n); s != nil || e != api.ErrRange {
			t.Errorf("New %d: %v %d", n, s, e)
		}
	}
	for n := 1; n <= api.MaxWorkers; n++ {
		s := newStore(t, n)
		counts(t, s, 1, 0, 0, 0)
		for w := range n {
			begin(t, s, w, nil, w, api.OK)
		}
		begin(t, s, n, nil, 0, api.ErrWorker)
		counts(t, s, 1, 0, n, 0)
	}
}

func TestANewStoreHasNoTables(t *testing.T) {
	s := newStore(t, 1)
	for epoch := range 2 {
		d, e := s.AsOf(epoch)
		if e != api.OK || len(d.Tables()) != 0 {
			t.Errorf("AsOf %d: %d", epoch, e)
		}
	}
	if list := s.Entries(); len(list) != 0 {
		t.Error(list)
	}
	if e := s.Drop("t"); e != api.ErrTable {
		t.Error(e)
	}
}

// The clock's every is 1, and its first epoch 1: the snapshot epoch follows at each epoch.
func TestEpochsRise(t *testing.T) {
	s := newStore(t, 2)
	counts(t, s, 1, 0, 0, 0)
	for epoch := 2; epoch < 9; epoch++ {
		up(t, s, true)
		counts(t, s, epoch, epoch-2, 0, 0)
	}
	// A worker that has entered lets it rise once.
	begin(t, s, 0, nil, 0, api.OK)
	counts(t, s, 8, 6, 1, 0)
	up(t, s, true)
	up(t, s, false)
	up(t, s, false)
	counts(t, s, 9, 7, 1, 0)
	begin(t, s, 1, nil, 1, api.OK)
	up(t, s, false)
	for s.Working() == 2 {
		s.Step(0)
	}
	// It has left, and the other one is of this epoch.
	up(t, s, true)
	up(t, s, false)
	counts(t, s, 10, 8, 1, s.Steps())
	for s.Working() == 1 {
		s.Step(1)
	}
	up(t, s, true)
	up(t, s, true)
	counts(t, s, 12, 10, 0, s.Steps())
}

func TestStepsAreCounted(t *testing.T) {
	x := newScript(t, 3, numbers("t", false))
	for _, ops := range [][]api.Op{nil, {put("t", num(1), num(1))}, {get("u")}} {
		before := x.s.Steps()
		b := x.begin(2, ops...)
		if x.s.Steps() != before {
			t.Error("Begin is a step")
		}
		x.run(2)
		if x.s.Steps() != before+b.steps || b.steps < 1 {
			t.Errorf("%d steps, %d ahead, %d of its own", x.s.Steps(), before, b.steps)
		}
	}
	steps := x.s.Steps()
	noStep(t, x.s, 0)
	x.s.Advance()
	x.entries()
	x.look(0)
	x.drop("t")
	if x.s.Steps() != steps {
		t.Error("a call that is none was counted as a step")
	}
	x.verify()
}

// What is read by a step is little: as many rows as an operation tells take more steps than one.
func TestStepsAreLittle(t *testing.T) {
	x := newScript(t, 1, numbers("t", true))
	var ops []api.Op
	for n := range 50 {
		ops = append(ops, put("t", num(int64(n)), num(int64(n))))
	}
	for _, batch := range [][]api.Op{ops, {scan("t")}} {
		b := x.begin(0, batch...)
		x.run(0)
		if b.steps < 50 {
			t.Errorf("%s: %d steps", brief(batch), b.steps)
		}
	}
	x.verify()
}

// 16.2

func badTables() []api.Table {
	return []api.Table{
		{}, {Name: "T", Columns: example().Columns, Key: 1}, {Name: "x", Columns: example().Columns, Key: 0}, {Name: "x", Columns: example().Columns, Key: 3},
		{Name: strings.Repeat("x", 33), Columns: example().Columns, Key: 1}, {Name: "x", Key: 1}, {Name: "x", Columns: append(example().Columns, example().Columns...), Key: 1},
		{Name: "x", Columns: example().Columns, Key: 1, Indexes: []api.Index{{Name: "i", Columns: []int{2}}}},
	}
}

func TestCreateAndDrop(t *testing.T) {
	s := newStore(t, 1)
	wrong := func() {
		t.Helper()
		before := state(s)
		for _, y := range badTables() {
			if e := s.Create(y); e != api.ErrSchema {
				t.Errorf("Create %s: %d", brief(y), e)
			}
		}
		for _, name := range []string{"", "x", "T", strings.Repeat("x", 99)} {
			if e := s.Drop(name); e != api.ErrTable {
				t.Errorf("Drop %s: %d", name, e)
			}
		}
		same(t, s, before)
	}
	for range 3 {
		wrong()
		if e := s.Create(example()); e != api.OK {
			t.Error(e)
		}
		for _, y := range []api.Table{example(), numbers("t", true)} {
			if e := s.Create(y); e != api.ErrThere {
				t.Error(e)
			}
		}
		if e := s.Create(wide()); e != api.OK {
			t.Error(e)
		}
		wrong()
		d, _ := s.AsOf(1)
		if y, e := d.Schema("t"); !slices.Equal(d.Tables(), []string{"t", "w"}) || fmt.Sprint(y) != fmt.Sprint(example()) || e != api.OK {
			t.Error(d.Tables(), y, e)
		}
		for _, name := range []string{"t", "w"} {
			if e := s.Drop(name); e != api.OK {
				t.Error(e)
			}
			if e := s.Drop(name); e != api.ErrTable {
				t.Error(e)
			}
		}
		d, _ = s.AsOf(1)
		if len(d.Tables()) != 0 {
			t.Error(d.Tables())
		}
	}
	counts(t, s, 1, 0, 0, 0)
}

func TestCreateAsManyAsMayBe(t *testing.T) {
	s := newStore(t, 1)
	for n := range most {
		if e := s.Create(numbers(fmt.Sprint(n), false)); e != api.OK {
			t.Fatal(n, e)
		}
	}
	if e := s.Create(numbers("x", false)); e != api.ErrLong {
		t.Error(e)
	}
	if e := s.Create(numbers("7", false)); e != api.ErrThere {
		t.Error(e)
	}
	s.Drop("7")
	if e := s.Create(numbers("x", false)); e != api.OK {
		t.Error(e)
	}
}

func TestCreateAndDropWhileSomebodyWorks(t *testing.T) {
	s := newStore(t, 3, example())
	for w := range 3 {
		begin(t, s, w, []api.Op{put("t", num(1), txt("x"))}, w, api.OK)
		before := state(s)
		// Whatever else is wrong with them.
		for _, y := range append(badTables(), example(), wide()) {
			if e := s.Create(y); e != api.ErrWorker {
				t.Errorf("Create %s: %d", brief(y), e)
			}
		}
		for _, name := range []string{"t", "u", ""} {
			if e := s.Drop(name); e != api.ErrWorker {
				t.Errorf("Drop %s: %d", name, e)
			}
		}
		same(t, s, before)
	}
	for w := range 3 {
		for done := false; !done; {
			if e := s.Create(wide()); e != api.ErrWorker {
				t.Errorf("Create: %d", e)
			}
			done, _, _ = s.Step(w)
		}
	}
	if e := s.Create(wide()); e != api.OK {
		t.Error(e)
	}
	if e := s.Drop("t"); e != api.OK {
		t.Error(e)
	}
}

// A table that was dropped has taken its rows with it, and one that is created by its name has none.
func TestDropTakesRows(t *testing.T) {
	x := newScript(t, 2, numbers("t", true))
	x.done(0, put("t", num(1), num(5)), put("t", num(2), num(6)))
	x.drop("t")
	if o := x.do(1, get("t", num(1))); o.Committed || o.Results[0].Code != api.ErrTable {
		t.Error(o)
	}
	x.create(numbers("t", true))
	r := x.done(1, scan("t"), get("t", num(1)), find("t", "i", num(5)), insert("t", num(1), num(6)), put("t", num(3), num(5)), scan("t"))
	if len(r[0].Rows)+len(r[1].Rows)+len(r[2].Rows) != 0 || len(r[5].Rows) != 2 {
		t.Error(r)
	}
	x.verify()
}

func TestBegin(t *testing.T) {
	s := newStore(t, 3, example())
	long := make([]api.Op, most+1)
	before := state(s)
	for _, w := range append(extremes(), 3, 4) {
		begin(t, s, w, nil, 0, api.ErrWorker)
		begin(t, s, w, long, 0, api.ErrWorker)
	}
	for w := range 3 {
		begin(t, s, w, long, 0, api.ErrLong)
		begin(t, s, w, append(long, long...), 0, api.ErrLong)
	}
	same(t, s, before)
	// What was refused has no number.
	begin(t, s, 2, long[:most], 0, api.OK)
	begin(t, s, 2, nil, 0, api.ErrWorker)
	begin(t, s, 2, long, 0, api.ErrWorker)
	begin(t, s, 0, []api.Op{}, 1, api.OK)
	begin(t, s, 1, []api.Op{get("t", num(1))}, 2, api.OK)
	counts(t, s, 1, 0, 3, 0)
	for w := range 3 {
		begin(t, s, w, nil, 0, api.ErrWorker)
	}
	for s.Working() == 3 {
		s.Step(1)
	}
	begin(t, s, 1, nil, 3, api.OK)
	begin(t, s, 3, nil, 0, api.ErrWorker)
}

// A batch of as many operations as there may be is done whole.
func TestLongestBatch(t *testing.T) {
	x := newScript(t, 1, numbers("t", false))
	x.done(0, put("t", num(1), num(0)))
	ops := make([]api.Op, most)
	for i := range ops {
		ops[i] = add("t", 1, 1, num(1))
	}
	if r := x.done(0, ops...); len(r) != most || r[most-1].Rows[0][1].N != most {
		t.Error(len(r), r[most-1])
	}
	ops[most-1] = get("u")
	if o := x.do(0, ops...); o.Committed || len(o.Results) != most || o.Results[most-1].Code != api.ErrTable {
		t.Error(o.Committed, len(o.Results))
	}
	x.verify()
}

// 16.3

func TestStepOfNobody(t *testing.T) {
	s := newStore(t, 2, example())
	before := state(s)
	for _, w := range append(extremes(), 0, 1, 2, 3) {
		noStep(t, s, w)
	}
	same(t, s, before)
	begin(t, s, 1, []api.Op{put("t", num(1), txt("x"))}, 0, api.OK)
	for done := false; !done; {
		for _, w := range append(extremes(), 0, 2, 3) {
			noStep(t, s, w)
		}
		done, _, _ = s.Step(1)
	}
	noStep(t, s, 1)
	noStep(t, s, 0)
}

func TestOutcomes(t *testing.T) {
	x := newScript(t, 4, example())
	x.done(0, put("t", num(1), txt("x")), put("t", num(2), txt("y")))
	x.s.Advance()
	x.s.Advance()
	good := []api.Op{put("t", num(3), txt("z")), get("t", num(1)), del("t", num(2)), scan("t"), find("t", "i", txt("z"))}
	told := []api.Result{
		{}, {Rows: []row{{num(1), txt("x")}}}, {Rows: []row{{num(2), txt("y")}}},
		{Rows: []row{{num(1), txt("x")}, {num(3), txt("z")}}}, {Rows: []row{{num(3), txt("z")}}},
	}
	// Refused by the first, one in the middle, the last one.
	for at := range len(good) + 1 {
		ops := slices.Insert(slices.Clone(good), at, insert("t", num(1), txt("q")))
		want := append(slices.Clone(told[:at]), api.Result{Code: api.ErrThere})
		number := len(x.begun)
		o := x.do(3, ops...)
		if o.Committed || o.Worker != 3 || o.Number != number || o.Epoch != 3 || o.Step < 1 || !sameResults(o.Results, want) {
			t.Errorf("refused at %d: %s", at, brief(o))
		}
	}
	number := len(x.begun)
	o := x.do(2, good...)
	if !o.Committed || o.Worker != 2 || o.Number != number || o.Epoch != 3 || !sameResults(o.Results, told) {
		t.Errorf("committed: %s", brief(o))
	}
	x.verify()
}

func TestRefusals(t *testing.T) {
	codes := []struct {
		op   api.Op
		code api.Errno
	}{
		{api.Op{}, api.ErrProgram}, {api.Op{Kind: 8, Table: "t"}, api.ErrProgram}, {api.Op{Kind: math.MinInt, Table: "u"}, api.ErrProgram}, {api.Op{Kind: math.MaxInt}, api.ErrProgram},
		{get("u", num(1)), api.ErrTable}, {scan(""), api.ErrTable}, {get("t"), api.ErrRow}, {get("t", null()), api.ErrRow}, {del("t", txt("1")), api.ErrRow},
		{put("t", num(1)), api.ErrRow}, {put("t", num(1), txt("x")), api.ErrRow}, {put("t", num(9), num(2)), api.ErrUnique}, {insert("t", num(1), num(2)), api.ErrThere}, {insert("t", num(9), num(2)), api.ErrUnique},
		{put("t", num(1), num(2)), api.ErrUnique}, {put("t"), api.ErrRow}, {api.Op{Kind: api.OPut, Table: "t", Row: make(row, 40)}, api.ErrRow},
		{api.Op{Kind: api.OScan, Table: "t"}, api.ErrRange}, {scanFrom("t", nil, nil, most+1), api.ErrRange}, {scanFrom("t", nil, nil, math.MinInt), api.ErrRange}, {scanFrom("t", row{txt("x")}, nil, 0), api.ErrRow}, {scanFrom("t", nil, row{num(1), num(2)}, 1), api.ErrRow},
		{find("t", "z", num(1)), api.ErrNone}, {find("t", "i"), api.ErrRow}, {find("t", "i", txt("x")), api.ErrRow}, {api.Op{Kind: api.OFind, Table: "t", Index: "i", Key: row{num(1)}}, api.ErrRange},
		{add("t", 0, 1, num(1)), api.ErrRow}, {add("t", 2, 1, num(1)), api.ErrRow}, {add("t", math.MinInt, 1, num(1)), api.ErrRow}, {add("t", 1, 1, num(7)), api.ErrNone}, {add("t", 1, 1, num(3)), api.ErrRow},
		{add("t", 1, math.MaxInt64, num(1)), api.ErrRange}, {add("t", 1, 1, num(1)), api.ErrUnique}, {add("t", 1, 1), api.ErrRow},
		{put("t", num(4), api.Value{Kind: api.VInt, S: "x"}), api.ErrRow}, {put("t", api.Value{Kind: 77}, null()), api.ErrRow},
	}
	x := newScript(t, 1, numbers("t", true))
	x.done(0, put("t", num(1), num(1)), put("t", num(2), num(2)), put("t", num(3), null()))
	before := state(x.s)
	x.entries()
	for _, c := range codes {
		for _, ahead := range [][]api.Op{nil, {get("t", num(1)), put("t", num(5), num(50)), del("t", num(5))}} {
			o := x.do(0, append(ahead, c.op, put("t", num(6), num(60)))...)
			if n := len(ahead); o.Committed || len(o.Results) != n+1 || o.Results[n].Code != c.code || len(o.Results[n].Rows) != 0 {
				t.Errorf("%s: %s, not %d", brief(c.op), brief(o), c.code)
			}
		}
	}
	if d, _ := x.s.AsOf(1); !strings.Contains(before, dump(d)) {
		t.Error("a transaction that was refused has an effect")
	}
	if list := x.entries(); len(list) != 0 {
		t.Error(list)
	}
	x.verify()
}

func TestBatchOfNothing(t *testing.T) {
	for _, tables := range [][]api.Table{nil, {example()}} {
		s := newStore(t, 2, tables...)
		begin(t, s, 1, nil, 0, api.OK)
		steps := 0
		for {
			steps++
			done, o, e := s.Step(1)
			if e != api.OK || steps > 40 {
				t.Fatal(e, steps)
			}
			if !done {
				continue
			}
			if !o.Committed || o.Worker != 1 || o.Number != 0 || o.Epoch != 1 || o.Step < 1 || o.Step > steps || len(o.Results) != 0 {
				t.Error(o)
			}
			break
		}
		counts(t, s, 1, 0, 0, steps)
		if list := s.Entries(); len(list) != 0 {
			t.Error(list)
		}
	}
}

// A worker is idle behind the end of its transaction, however that ends, and has left the clock.
func TestIdleBehindTheEnd(t *testing.T) {
	x := newScript(t, 3, numbers("t", true))
	x.done(0, put("t", num(1), num(1)))
	aborted := false
	for _, ops := range [][]api.Op{nil, {add("t", 1, 1, num(1))}, {get("t")}, {get("t", num(1)), add("t", 1, 1, num(1))}} {
		b := x.begin(2, ops...)
		up(t, x.s, true)
		up(t, x.s, false)
		if len(ops) == 2 {
			// Another one comes between.
			for range 4 {
				x.step(2)
			}
			x.done(1, add("t", 1, 1, num(1)))
		}
		x.run(2)
		aborted = aborted || b.out.Step == 0
		if x.s.Working() != 0 {
			t.Error("it works still")
		}
		up(t, x.s, true)
		up(t, x.s, true)
		x.done(2)
	}
	if !aborted {
		t.Error("none was aborted")
	}
	x.verify()
}

// The Epoch is the one that the clock had when the place was fixed: that of the beginning, or a later one.
func TestEpochsOfOutcomes(t *testing.T) {
	for _, ops := range [][]api.Op{nil, {put("t", num(1), num(1)), put("t", num(2), num(2))}, {scan("t"), get("u")}} {
		early, late := 0, 0
		for ahead := range 30 {
			x := newScript(t, 2, numbers("t", false))
			b := x.begin(1, ops...)
			x.steps(1, ahead)
			if b.over {
				break
			}
			up(t, x.s, true)
			after := x.s.Steps()
			o := x.run(1)
			if o.Epoch != 1 && o.Epoch != 2 || (o.Step > after) != (o.Epoch == 2) {
				t.Errorf("Epoch %d, Step %d; the epoch rose behind %d steps", o.Epoch, o.Step, after)
			}
			if o.Epoch == 1 {
				early++
			} else {
				late++
			}
			x.verify()
		}
		if late == 0 || early == 0 && len(ops) > 0 {
			t.Errorf("%s: %d of the epoch 1, %d of the epoch 2", brief(ops), early, late)
		}
	}
}

// The example.

func TestExample(t *testing.T) {
	x := newScript(t, 1, example())
	o := x.do(0, put("t", num(1), txt("x")))
	if !o.Committed || o.Epoch != 1 || o.Number != 0 || x.s.Working() != 0 {
		t.Error(o)
	}
	d, e := x.s.AsOf(1)
	if e != api.OK {
		t.Fatal(e)
	}
	if list, _ := d.Rows("t"); !sameRows(list, []row{{num(1), txt("x")}}) {
		t.Error(list)
	}
	x.verify()
}

func TestExampleOfTwo(t *testing.T) {
	for ahead := range 30 {
		x := newScript(t, 2, numbers("t", false))
		x.done(0, put("t", num(1), num(0)))
		x.begin(0, add("t", 1, 1, num(1)))
		x.begin(1, add("t", 1, 1, num(1)))
		for range ahead {
			if x.at[0] == nil || x.step(0) {
				break
			}
		}
		x.turns()
		done := 0
		for _, b := range x.begun[1:] {
			if b.out.Committed {
				done++
			}
		}
		if r := x.done(0, get("t", num(1))); done < 1 || r[0].Rows[0][1].N != int64(done) {
			t.Errorf("%d committed: %s", done, brief(r))
		}
		x.verify()
	}
}

// Two stores do not touch one another.
func TestStoresAreApart(t *testing.T) {
	a, b := newScript(t, 2, numbers("t", true)), newScript(t, 2, numbers("t", true))
	a.done(0, put("t", num(1), num(1)))
	a.begin(1, put("t", num(2), num(2)), scan("t"))
	b.begin(0, put("t", num(3), num(1)), scan("t"))
	for a.s.Working() > 0 {
		a.step(1)
		if b.at[0] != nil {
			b.step(0)
		}
	}
	a.s.Advance()
	b.turns()
	counts(t, b.s, 1, 0, 0, b.s.Steps())
	if list := b.entries(); len(list) != 1 {
		t.Error(list)
	}
	b.drop("t")
	if r := a.done(0, scan("t")); len(r[0].Rows) != 2 {
		t.Error(r)
	}
	a.verify()
	b.verify()
}

// The same script comes to the same (R7).
func TestTheSameAgain(t *testing.T) {
	run := func() string {
		x := newScript(t, 4, wide(), numbers("t", true))
		x.play(drawnOf(77, 4, 4, 5), []api.Table{wide(), numbers("t", true)}, 600, 5)
		x.verify()
		out := state(x.s)
		for _, b := range x.begun {
			out += fmt.Sprintln(b.out, b.steps)
		}
		return out + fmt.Sprint(x.told)
	}
	if a, b := run(), run(); a != b {
		t.Error("it came to something else")
	}
}

// Only what is committed has an effect: what others read meanwhile is not of what is under way.
func TestNothingIsSeenAhead(t *testing.T) {
	ops := []api.Op{put("t", num(1), num(10)), put("t", num(2), num(20)), insert("t", num(3), num(30)), get("t", num(3))}
	for ahead := 1; ; ahead++ {
		x := newScript(t, 3, numbers("t", true))
		x.done(0, put("t", num(1), num(1)))
		b := x.begin(0, ops...)
		for range ahead {
			if x.step(0) {
				break
			}
		}
		o := x.do(1, scan("t"))
		if o.Committed && len(o.Results[0].Rows) != 1 && len(o.Results[0].Rows) != 3 {
			t.Errorf("behind %d steps: %s", ahead, brief(o))
		}
		over := b.over
		x.verify()
		if over {
			return
		}
	}
}
