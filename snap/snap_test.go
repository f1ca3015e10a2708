package snap_test

import (
	"math"
	"slices"
	"strings"
	"testing"

	"hopper/api"
	"hopper/occ"
	"hopper/snap"
)

// refused holds that a query is refused, and that nothing has changed by it.
func refused(t *testing.T, s *occ.Store, r *snap.Reader, want api.Errno, ops []api.Op) {
	t.Helper()
	last, before := r.Last(), state(s)
	results, done, epoch, e := r.Read(ops)
	if results != nil || done || epoch != 0 || e != want {
		t.Errorf("%s: %s %t %d %d, not %d", brief(ops), brief(results), done, epoch, e, want)
	}
	if r.Last() != last {
		t.Errorf("Last was %d and is %d", last, r.Last())
	}
	if state(s) != before {
		t.Errorf("%s has changed the store", brief(ops))
	}
}

// The chapter's example.
func TestExample(t *testing.T) {
	x := newScript(t, 1, example())
	x.done(0, put("t", num(1), txt("x")))
	r := x.reader()
	holds := func(epoch, snapshot int, want api.Result) {
		t.Helper()
		results, done, n, e := r.Read([]api.Op{get("t", num(1))})
		if x.s.Epoch() != epoch || n != snapshot || answer(results, done) != answer([]api.Result{want}, want.Code == api.OK) || e != api.OK || r.Last() != snapshot {
			t.Errorf("at the epoch %d: %v %t %d %d", x.s.Epoch(), results, done, n, e)
		}
	}
	holds(1, 0, api.Result{Code: api.ErrTable})
	x.advance(3)
	holds(4, 2, api.Result{Rows: []row{{num(1), txt("x")}}})
}

// The same, asked at the epochs between, too: the row is told from the epoch 3 on.
func TestExampleAtEachEpoch(t *testing.T) {
	x := newScript(t, 1, example())
	x.done(0, put("t", num(1), txt("x")))
	r := x.reader()
	for range 2 {
		x.seesNone(r, "t")
		x.advance(1)
	}
	for range 3 {
		x.sees(r, "t", row{num(1), txt("x")})
		x.advance(1)
	}
	x.verify()
}

// 17.1

func TestNew(t *testing.T) {
	if r, e := snap.New(nil); r != nil || e != api.ErrNone {
		t.Error(r, e)
	}
	var none *occ.Store
	if r, e := snap.New(none); r != nil || e != api.ErrNone {
		t.Error(r, e)
	}
	for workers := 1; workers <= api.MaxWorkers; workers++ {
		s, _ := occ.New(workers)
		before := state(s)
		r, e := snap.New(s)
		if r == nil || e != api.OK || r.Last() != 0 {
			t.Error(r, e)
		}
		if state(s) != before {
			t.Error("New has changed the store")
		}
	}
}

// A reader may be made of a store at any time: it tells of the snapshot epoch then.
func TestNewOfAStoreThatIsUsed(t *testing.T) {
	x := newScript(t, 2, numbers("t", false))
	x.done(0, put("t", num(1), num(1)))
	x.advance(4)
	x.begin(1, put("t", num(2), num(2)))
	x.step(1)
	r := x.reader()
	if r.Last() != 0 {
		t.Error(r.Last())
	}
	x.sees(r, "t", row{num(1), num(1)})
	if r.Last() != 3 {
		t.Error(r.Last())
	}
	x.verify()
}

func TestLast(t *testing.T) {
	x := newScript(t, 1, numbers("t", false))
	s := x.s
	r := x.reader()
	last := func(want int) {
		t.Helper()
		if r.Last() != want || r.Last() != want {
			t.Errorf("Last: %d, not %d", r.Last(), want)
		}
	}
	last(0)
	refused(t, s, r, api.ErrProgram, []api.Op{{}})
	last(0)
	// Answered while the snapshot epoch is 0.
	x.ask(r, get("t", num(1)))
	last(0)
	x.advance(3)
	// It is not the store's snapshot epoch, but that of a query.
	last(0)
	refused(t, s, r, api.ErrLong, make([]api.Op, most+1))
	refused(t, s, r, api.ErrProgram, []api.Op{get("t", num(1)), put("t", num(1), num(1))})
	last(0)
	x.ask(r, get("t", num(1)))
	last(2)
	x.advance(1)
	last(2)
	refused(t, s, r, api.ErrProgram, []api.Op{{}})
	refused(t, s, r, api.ErrLong, make([]api.Op, most+1))
	last(2)
	// One that chapter 15 refuses was answered.
	x.ask(r, get("nobody", num(1)))
	last(3)
	x.advance(2)
	x.ask(r)
	last(5)
	x.ask(r, scan("t"))
	last(5)
	x.advance(3)
	last(5)
	x.verify()
}

// 17.2

// filled is a store at the epoch 3, whose rows are all of the epoch 1.
func filled(t *testing.T) (*script, *snap.Reader) {
	t.Helper()
	x := newScript(t, 2, example(), wide())
	x.done(0,
		put("t", num(3), txt("x")), put("t", num(1), txt("x")), put("t", num(2), null()), put("t", num(-4), txt("y")),
		put("w", num(1), txt("a"), num(7), txt("s")), put("w", num(1), txt("b"), num(8), null()), put("w", num(2), txt("a"), null(), txt("s")))
	x.advance(2)
	return x, x.reader()
}

func TestEachKind(t *testing.T) {
	x, r := filled(t)
	first, second, third, fourth := row{num(-4), txt("y")}, row{num(1), txt("x")}, row{num(2), null()}, row{num(3), txt("x")}
	questions := []struct {
		op   api.Op
		rows []row
	}{
		{get("t", num(1)), []row{second}},
		{get("t", num(9)), nil},
		{scan("t"), []row{first, second, third, fourth}},
		{scanFrom("t", row{num(1)}, nil, 2), []row{second, third}},
		{scanFrom("t", row{num(-9)}, row{num(2)}, 9), []row{first, second}},
		{scanFrom("t", row{num(2)}, row{num(1)}, 9), nil},
		{scanFrom("t", nil, nil, 1), []row{first}},
		{find("t", "i", txt("x")), []row{second, fourth}},
		{api.Op{Kind: api.OFind, Table: "t", Index: "i", Key: row{txt("x")}, Limit: 1}, []row{second}},
		{find("t", "i", null()), []row{third}},
		{find("t", "i", txt("q")), nil},
		{get("w", num(1), txt("b")), []row{{num(1), txt("b"), num(8), null()}}},
		{scanFrom("w", row{num(1), txt("b")}, row{num(2), txt("a")}, 9), []row{{num(1), txt("b"), num(8), null()}}},
		{find("w", "u", num(7)), []row{{num(1), txt("a"), num(7), txt("s")}}},
		{find("w", "j", txt("s"), txt("a"), txt("s")), []row{{num(1), txt("a"), num(7), txt("s")}, {num(2), txt("a"), null(), txt("s")}}},
	}
	var ops []api.Op
	var all []api.Result
	for _, q := range questions {
		want := api.Result{Rows: q.rows}
		ops, all = append(ops, q.op), append(all, want)
		results, done := x.ask(r, q.op)
		if answer(results, done) != answer([]api.Result{want}, true) {
			t.Errorf("%s: %s, not %s", brief(q.op), brief(results), brief(want))
		}
	}
	// With one another, in each order of two.
	for i := range ops {
		for j := range ops {
			results, done := x.ask(r, ops[i], ops[j])
			if answer(results, done) != answer([]api.Result{all[i], all[j]}, true) {
				t.Errorf("%s, %s: %s", brief(ops[i]), brief(ops[j]), brief(results))
			}
		}
	}
	results, done := x.ask(r, ops...)
	if answer(results, done) != answer(all, true) {
		t.Errorf("%s, not %s", brief(results), brief(all))
	}
	x.verify()
}

// Fields that a kind does not tell are not looked at.
func TestFieldsThatAreNotTold(t *testing.T) {
	x, r := filled(t)
	wrong := row{{Kind: 77}, {Kind: -1, N: 9, S: "\xff"}}
	odd := []api.Op{
		{Kind: api.OGet, Table: "t", Key: row{num(1)}, To: wrong, Row: wrong, Index: "none", At: math.MinInt, N: math.MinInt64, Limit: -1},
		{Kind: api.OScan, Table: "t", Row: wrong, Index: "none", At: math.MaxInt, N: 5, Limit: 9},
		{Kind: api.OFind, Table: "t", Index: "i", Key: row{txt("x")}, To: wrong, Row: wrong, At: -1, N: 1, Limit: 9},
	}
	plain := []api.Op{get("t", num(1)), scan("t"), find("t", "i", txt("x"))}
	a, done := x.ask(r, odd...)
	b, _ := x.ask(r, plain...)
	if !done || answer(a, done) != answer(b, done) || len(a) != 3 {
		t.Errorf("%s, not %s", brief(a), brief(b))
	}
	x.verify()
}

func TestQueryOfNothing(t *testing.T) {
	for advances := range 5 {
		x := newScript(t, 1, example())
		x.advance(advances)
		r := x.reader()
		for _, ops := range [][]api.Op{nil, {}} {
			results, done, epoch, e := r.Read(ops)
			if len(results) != 0 || !done || epoch != max(0, advances-1) || e != api.OK {
				t.Error(results, done, epoch, e)
			}
		}
	}
}

func TestHowManyOperationsMayBe(t *testing.T) {
	x, r := filled(t)
	ops := slices.Repeat([]api.Op{get("t", num(1)), scanFrom("t", nil, nil, 1), get("t", num(9)), find("t", "i", txt("y"))}, most/4+1)
	for _, n := range []int{1, 2, most - 1, most} {
		results, done := x.ask(r, ops[:n]...)
		if !done || len(results) != n {
			t.Errorf("%d operations: %d results, %t", n, len(results), done)
		}
	}
	for _, n := range []int{most + 1, most + 2, len(ops)} {
		refused(t, x.s, r, api.ErrLong, ops[:n])
	}
	// The last one of as many as may be is done, too.
	ops[most-1] = get("t", txt("x"))
	results, done := x.ask(r, ops[:most]...)
	if done || len(results) != most || results[most-1].Code != api.ErrRow || results[most-2].Code != api.OK {
		t.Error(done, len(results), results[len(results)-1])
	}
	ops[most-1] = put("t", num(1), txt("x"))
	refused(t, x.s, r, api.ErrProgram, ops[:most])
	x.verify()
}

// badKinds are those of operations that write, and of none.
func badKinds() []int {
	list := []int{math.MinInt, math.MinInt + 1, math.MinInt32, math.MaxInt, math.MaxInt - 1, math.MaxInt32, math.MaxUint32, 1 << 32, 1<<32 + 1, 1<<8 + api.OGet, 1<<16 + api.OScan, 1<<32 + api.OFind}
	for kind := -20; kind <= 20; kind++ {
		if kind != api.OGet && kind != api.OScan && kind != api.OFind {
			list = append(list, kind)
		}
	}
	return list
}

func TestOperationsThatAreNoQuestions(t *testing.T) {
	x, r := filled(t)
	good := []api.Op{get("t", num(1)), scan("t"), find("t", "i", txt("x")), get("w", num(1), txt("a"))}
	for _, kind := range badKinds() {
		for _, bad := range []api.Op{
			{Kind: kind}, {Kind: kind, Table: "t"}, {Kind: kind, Table: "nobody"},
			{Kind: kind, Table: "t", Key: row{num(1)}, Row: row{num(7), txt("q")}, Index: "i", At: 1, N: 1, Limit: 9},
		} {
			refused(t, x.s, r, api.ErrProgram, []api.Op{bad})
			for _, at := range []int{0, 2, len(good)} {
				refused(t, x.s, r, api.ErrProgram, slices.Insert(slices.Clone(good), at, bad))
			}
		}
	}
	// Nothing of them was done: all is as it was, and is told later, too.
	x.advance(3)
	x.sees(r, "t", row{num(-4), txt("y")}, row{num(1), txt("x")}, row{num(2), null()}, row{num(3), txt("x")})
	x.verify()
}

// All operations are looked at ahead of the first one that is done.
func TestWhichErrorIsAnswered(t *testing.T) {
	x, r := filled(t)
	write, unknown, none := put("t", num(7), txt("q")), api.Op{Kind: 77}, get("nobody", num(1))
	// ErrProgram also where chapter 15 would have refused one ahead of it.
	for _, ops := range [][]api.Op{{none, write}, {get("t"), unknown}, {get("t", num(1)), {Kind: api.OScan, Table: "t"}, write}, {write, none}, {unknown, write}} {
		refused(t, x.s, r, api.ErrProgram, ops)
	}
	// ErrLong ahead of it, wherever it would be.
	for _, bad := range []api.Op{write, unknown, none, get("t", num(1))} {
		for _, at := range []int{0, most / 2, most} {
			ops := slices.Repeat([]api.Op{get("t", num(1))}, most+1)
			ops[at] = bad
			refused(t, x.s, r, api.ErrLong, ops)
		}
		refused(t, x.s, r, api.ErrLong, slices.Repeat([]api.Op{bad}, most+1))
	}
	refused(t, x.s, r, api.ErrProgram, slices.Repeat([]api.Op{write}, most))
	// What lies behind the list's length is not looked at.
	ops := append(slices.Repeat([]api.Op{get("t", num(1))}, 3), slices.Repeat([]api.Op{write}, most)...)
	if results, done := x.ask(r, ops[:3]...); !done || len(results) != 3 {
		t.Error(results, done)
	}
	// At the epoch 0 they are the same.
	y := newScript(t, 1, example())
	young := y.reader()
	refused(t, y.s, young, api.ErrProgram, []api.Op{none, write})
	refused(t, y.s, young, api.ErrLong, slices.Repeat([]api.Op{write}, most+1))
	x.verify()
}

// What chapter 15 refuses is no error: the results up to it, and the epoch, are told.
func TestRefusedByChapter15(t *testing.T) {
	codes := []struct {
		op   api.Op
		code api.Errno
	}{
		{get("nobody", num(1)), api.ErrTable}, {scan(""), api.ErrTable}, {find("T", "i", txt("x")), api.ErrTable}, {scan(strings.Repeat("t", 9999)), api.ErrTable},
		{get("t"), api.ErrRow}, {get("t", null()), api.ErrRow}, {get("t", txt("1")), api.ErrRow}, {get("t", num(1), num(2)), api.ErrRow}, {get("t", api.Value{Kind: 77}), api.ErrRow},
		{get("t", api.Value{Kind: api.VInt, S: "x"}), api.ErrRow}, {get("w", num(1)), api.ErrRow}, {get("t", make(row, 99)...), api.ErrRow},
		{scanFrom("t", row{txt("x")}, nil, 1), api.ErrRow}, {scanFrom("t", nil, row{num(1), num(2)}, 1), api.ErrRow}, {scanFrom("t", row{null()}, nil, 0), api.ErrRow}, {scanFrom("t", nil, row{null()}, 1), api.ErrRow},
		{scanFrom("t", nil, nil, 0), api.ErrRange}, {scanFrom("t", nil, nil, -1), api.ErrRange}, {scanFrom("t", nil, nil, most+1), api.ErrRange}, {scanFrom("t", nil, nil, math.MaxInt), api.ErrRange}, {scanFrom("w", row{num(1)}, row{num(1)}, math.MinInt), api.ErrRange},
		{find("t", "none", txt("x")), api.ErrNone}, {find("t", "", txt("x")), api.ErrNone}, {find("t", "i"), api.ErrRow}, {find("t", "i", num(1)), api.ErrRow}, {find("t", "i", txt("x"), txt("x")), api.ErrRow}, {find("w", "j", txt("s"), txt("a")), api.ErrRow},
		{api.Op{Kind: api.OFind, Table: "t", Index: "i", Key: row{txt("x")}}, api.ErrRange}, {api.Op{Kind: api.OFind, Table: "t", Index: "i", Key: row{txt("x")}, Limit: most + 1}, api.ErrRange},
		{api.Op{Kind: api.OGet}, api.ErrTable}, {api.Op{Kind: api.OScan}, api.ErrTable}, {api.Op{Kind: api.OFind}, api.ErrTable},
	}
	x, r := filled(t)
	good := []api.Op{get("t", num(1)), scan("t"), find("t", "i", txt("x"))}
	told, _ := x.ask(r, good...)
	for _, c := range codes {
		for at := range len(good) + 1 {
			ops := slices.Insert(slices.Clone(good), at, c.op)
			want := append(slices.Clone(told[:at]), api.Result{Code: c.code})
			before := state(x.s)
			results, done, epoch, e := r.Read(ops)
			if answer(results, done) != answer(want, false) || epoch != 1 || e != api.OK || r.Last() != 1 {
				t.Errorf("%s at %d: %s %t %d %d, not %d", brief(c.op), at, brief(results), done, epoch, e, c.code)
			}
			if state(x.s) != before {
				t.Errorf("%s has changed the store", brief(ops))
			}
		}
	}
	x.verify()
}

// The greatest numbers of rows for which all is promised, and the greatest answers.
func TestManyRows(t *testing.T) {
	x := newScript(t, 1, numbers("t", false))
	var ops []api.Op
	var rows []row
	for n := range int64(1000) {
		ops = append(ops, put("t", num(n), num(n%3)))
		rows = append(rows, row{num(n), num(n % 3)})
	}
	x.done(0, ops...)
	x.advance(2)
	x.done(0, del("t", num(5)), put("t", num(7), num(77)))
	r := x.reader()
	x.sees(r, "t", rows...)
	results, done := x.ask(r, find("t", "i", num(2)), scanFrom("t", row{num(990)}, nil, 5))
	if !done || len(results[0].Rows) != 333 || len(results[1].Rows) != 5 {
		t.Error(done, len(results[0].Rows), len(results[1].Rows))
	}
	x.verify()
}
