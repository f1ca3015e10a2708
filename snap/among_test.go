package snap_test

import (
	"fmt"
	"math/rand"
	"slices"
	"testing"

	"hopper/api"
	"hopper/snap"
)

// 17.3 and 17.4: queries among transactions.

// drawn draws operations on few rows with few values, so that transactions meet.
type drawn struct {
	*rand.Rand
	tables []api.Table
	keys   int64
}

func drawnOf(seed, keys int64, tables ...api.Table) drawn {
	return drawn{rand.New(rand.NewSource(seed)), tables, keys}
}

func (r drawn) value(kind int) api.Value {
	if kind == api.VText {
		return txt([]string{"", "x", "y", "z\x00"}[r.Intn(4)])
	}
	return num(r.Int63n(r.keys))
}

func (r drawn) row(y api.Table) row {
	var list row
	for at, c := range y.Columns {
		v := r.value(c.Kind)
		if at >= y.Key && r.Intn(8) == 0 {
			v = null()
		}
		list = append(list, v)
	}
	return list
}

func (r drawn) key(y api.Table) row { return r.row(y)[:y.Key] }

// begins draws a beginning of a key.
func (r drawn) begins(y api.Table) row { return r.row(y)[:r.Intn(y.Key+1)] }

func (r drawn) table() api.Table { return r.tables[r.Intn(len(r.tables))] }

func (r drawn) question() api.Op {
	y := r.table()
	switch r.Intn(20) {
	case 0:
		return []api.Op{get("nobody", num(1)), get(y.Name), {Kind: api.OScan, Table: y.Name}, find(y.Name, "none"), find(y.Name, "i")}[r.Intn(5)]
	case 1, 2, 3, 4, 5:
		return get(y.Name, r.key(y)...)
	case 6, 7, 8, 9, 10, 11:
		x := y.Indexes[r.Intn(len(y.Indexes))]
		list := r.row(y)
		var k row
		for _, at := range x.Columns {
			k = append(k, list[at])
		}
		return api.Op{Kind: api.OFind, Table: y.Name, Index: x.Name, Key: k, Limit: []int{1, 2, most}[r.Intn(3)]}
	case 12, 13:
		return scan(y.Name)
	}
	return scanFrom(y.Name, r.begins(y), r.begins(y), 1+r.Intn(5))
}

func (r drawn) query(longest int) []api.Op {
	var ops []api.Op
	for range r.Intn(longest + 1) {
		ops = append(ops, r.question())
	}
	return ops
}

func (r drawn) batch(longest int) []api.Op {
	var ops []api.Op
	for range r.Intn(longest + 1) {
		y := r.table()
		switch r.Intn(8) {
		case 0, 1, 2:
			ops = append(ops, put(y.Name, r.row(y)...))
		case 3:
			ops = append(ops, insert(y.Name, r.row(y)...))
		case 4:
			ops = append(ops, del(y.Name, r.key(y)...))
		case 5:
			ops = append(ops, add(y.Name, y.Key, r.Int63n(3)-1, r.key(y)...))
		default:
			ops = append(ops, r.question())
		}
	}
	return ops
}

// change creates or drops a table, when all that work have ended.
func (r drawn) change(x *script) {
	x.turns()
	y := r.table()
	d, _ := x.s.AsOf(x.s.Epoch())
	if _, e := d.Schema(y.Name); e == api.OK {
		x.drop(y.Name)
		return
	}
	x.create(y)
}

// play lets workers begin and take steps as they are drawn; now and then the epoch rises, or a table comes or goes. Behind each act look is called, with what it told.
func (x *script) play(r drawn, acts, longest int, look func(told string)) {
	x.Helper()
	for range acts {
		w := r.Intn(len(x.ops))
		told := ""
		switch n := r.Intn(100); {
		case n < 6:
			told = fmt.Sprint(x.s.Advance())
		case n < 8:
			told = fmt.Sprint(x.s.Entries())
		case n < 9:
			r.change(x)
		case x.ops[w] == nil:
			x.begin(w, r.batch(longest)...)
		default:
			x.step(w)
		}
		look(told)
	}
	x.turns()
	look(fmt.Sprint(x.s.Entries()))
}

func kinds() []drawn {
	return []drawn{
		drawnOf(1, 3, numbers("t", false)), drawnOf(2, 5, numbers("t", true)), drawnOf(3, 4, wide(), numbers("t", true)),
		drawnOf(4, 20, numbers("t", false), numbers("u", true), wide()), drawnOf(5, 2, wide()),
	}
}

// While many transactions work, at each of their steps, a query tells the state of the snapshot epoch.
func TestQueriesAmongTransactions(t *testing.T) {
	for at := range kinds() {
		t.Run(fmt.Sprint(at), func(t *testing.T) {
			t.Parallel()
			for seed := range int64(12) {
				r := kinds()[at]
				r.Seed(100*int64(at) + seed)
				x := newScript(t, 2+int(seed), r.tables...)
				a, b := x.reader(), x.reader()
				x.play(r, 500, 4, func(string) {
					x.ask(a, r.query(4)...)
					ops := r.query(3)
					results, done := x.ask(b, ops...)
					// Chapter 16's AsOf says the same.
					d, e := x.s.AsOf(x.s.Snapshot())
					want, is, _ := d.Apply(ops)
					if e != api.OK || answer(results, done) != answer(want, is) {
						t.Fatalf("%s: %s, not %s", brief(ops), brief(answer(results, done)), brief(answer(want, is)))
					}
				})
				if a.Last() < 3 {
					t.Error("the snapshot epoch has hardly risen")
				}
				x.verify()
			}
		})
	}
}

// seen is all that can be seen of a store, from the epoch ahead of the snapshot epoch on, and all outcomes.
func (x *script) seen() string {
	out := fmt.Sprintln(x.s.Working(), x.s.Steps(), x.s.Epoch(), x.s.Snapshot(), len(x.ended), x.ended[max(0, len(x.ended)-len(x.ops)):])
	for epoch := max(0, x.s.Snapshot()-1); epoch <= x.s.Epoch(); epoch++ {
		d, e := x.s.AsOf(epoch)
		out += fmt.Sprintln(epoch, e)
		if e == api.OK {
			out += dump(d)
		}
	}
	return out
}

// logOf plays a script with queries, or without, and tells what was seen behind each act.
func logOf(t *testing.T, at int, seed int64, asks bool) ([]string, *script) {
	t.Helper()
	r, other := kinds()[at], kinds()[at]
	r.Seed(seed)
	x := newScript(t, 5, r.tables...)
	readers := []*snap.Reader{x.reader(), x.reader()}
	var log []string
	x.play(r, 300, 4, func(told string) {
		for _, reader := range readers {
			if !asks {
				break
			}
			x.ask(reader, other.query(4)...)
			x.ask(reader, slices.Concat(other.query(2), []api.Op{get("nobody")}, other.query(2))...)
			reader.Read([]api.Op{scan("t"), put("t", num(1), num(99)), del("t", num(2))})
			reader.Read(make([]api.Op, most+1))
		}
		log = append(log, told+"\n"+x.seen())
	})
	return log, x
}

// Queries change nothing: Working, Steps, Epoch, Snapshot, Entries, AsOf and all outcomes are what they are without them.
func TestTransactionsComeToWhatTheyComeToWithout(t *testing.T) {
	committed, refused, aborted := 0, 0, 0
	for at := range kinds() {
		for seed := range int64(4) {
			without, _ := logOf(t, at, seed, false)
			with, x := logOf(t, at, seed, true)
			if len(with) != len(without) {
				t.Fatalf("script %d, %d: %d acts, not %d", at, seed, len(with), len(without))
			}
			for i := range with {
				if with[i] != without[i] {
					t.Fatalf("script %d, %d behind %d acts: %s, not %s", at, seed, i+1, brief(with[i]), brief(without[i]))
				}
			}
			for _, o := range x.ended {
				switch {
				case o.Committed:
					committed++
				case o.Step > 0:
					refused++
				default:
					aborted++
				}
			}
			x.verify()
		}
	}
	t.Logf("%d committed, %d refused, %d aborted", committed, refused, aborted)
	if committed == 0 || refused == 0 || aborted == 0 {
		t.Error("the scripts do not show all three ends")
	}
}

// meetings are batches of workers that begin at once: some of them write the same rows, some are refused.
func meetings() [][][]api.Op {
	return [][][]api.Op{
		{{put("t", num(1), num(9))}},
		{{put("t", num(1), num(9)), del("t", num(2)), insert("t", num(5), num(5))}},
		{{add("t", 1, 1, num(1))}, {add("t", 1, 1, num(1))}},
		{{put("t", num(5), num(50))}, {put("t", num(6), num(50))}, {scan("t")}},
		{{del("t", num(1)), del("t", num(2))}, {put("t", num(2), num(3)), put("t", num(1), num(4))}},
		{{insert("t", num(1), num(1))}, {put("t", num(7), num(7)), get("nobody")}, nil},
		{{del("t", num(1))}, {put("t", num(8), num(1))}, {find("t", "i", num(1)), add("t", 1, 3, num(2))}, {scan("t"), put("t", num(9), num(9))}},
	}
}

// meet lets all of a meeting begin, in the epoch 3 or, the later half, in the epoch 4, and take steps by turns; look is called ahead of each step, and at the end.
func meet(t *testing.T, batches [][]api.Op, look func(x *script, r *snap.Reader)) (*script, []api.Outcome) {
	t.Helper()
	x := newScript(t, 4, numbers("t", true))
	x.done(0, put("t", num(1), num(1)), put("t", num(2), num(2)))
	x.advance(1)
	x.done(0, put("t", num(3), num(3)))
	x.advance(1)
	r := x.reader()
	for w, ops := range batches {
		if w == (len(batches)+1)/2 {
			x.s.Advance()
		}
		x.begin(w, ops...)
	}
	var outcomes []api.Outcome
	for x.s.Working() > 0 {
		for w := range batches {
			if x.ops[w] == nil {
				continue
			}
			look(x, r)
			if done, o := x.step(w); done {
				outcomes = append(outcomes, o)
			}
		}
	}
	look(x, r)
	return x, outcomes
}

// At each step of a meeting, with records that are locked and rows that are put in by halves, a query tells what was.
func TestQueriesAtEachStep(t *testing.T) {
	var questions []api.Op
	for n := range int64(11) {
		questions = append(questions, get("t", num(n)), find("t", "i", num(n)), scanFrom("t", row{num(n)}, nil, 3))
	}
	for at, batches := range meetings() {
		_, plain := meet(t, batches, func(*script, *snap.Reader) {})
		looks := 0
		x, outcomes := meet(t, batches, func(x *script, r *snap.Reader) {
			looks++
			steps, working := x.s.Steps(), x.s.Working()
			x.ask(r, questions...)
			want := []row{{num(1), num(1)}, {num(2), num(2)}}
			if r.Last() == 2 {
				want = append(want, row{num(3), num(3)})
			}
			x.sees(r, "t", want...)
			if r.Last() < 1 || r.Last() > 2 || x.s.Steps() != steps || x.s.Working() != working {
				t.Errorf("meeting %d: Last %d, steps %d, then %d; working %d, then %d", at, r.Last(), steps, x.s.Steps(), working, x.s.Working())
			}
		})
		if fmt.Sprint(outcomes) != fmt.Sprint(plain) {
			t.Errorf("meeting %d: %s, not %s", at, brief(outcomes), brief(plain))
		}
		if looks < 4 {
			t.Errorf("meeting %d: %d looks", at, looks)
		}
		x.verify()
	}
}

// 17.4

// Of one epoch the same query tells the same, whatever has happened since; and the epochs do not fall.
func TestOneEpochTellsTheSame(t *testing.T) {
	for at := range kinds() {
		r := kinds()[at]
		x := newScript(t, 4, r.tables...)
		a, b := x.reader(), x.reader()
		var queries [][]api.Op
		for range 6 {
			queries = append(queries, r.query(5))
		}
		told := map[string]string{}
		last, epochs := 0, 0
		x.play(r, 600, 4, func(string) {
			for i, ops := range queries {
				for _, reader := range []*snap.Reader{a, b} {
					results, done := x.ask(reader, ops...)
					of := fmt.Sprint(reader.Last(), " ", i)
					if was, there := told[of]; there && was != answer(results, done) {
						t.Fatalf("%s of the epoch %d: %s, not %s", brief(ops), reader.Last(), brief(answer(results, done)), brief(was))
					}
					told[of] = answer(results, done)
				}
			}
			if a.Last() < last || b.Last() != a.Last() {
				t.Fatalf("epochs %d and %d behind %d", a.Last(), b.Last(), last)
			}
			if a.Last() > last {
				epochs++
			}
			last = a.Last()
		})
		if epochs < 5 {
			t.Errorf("%d epochs", epochs)
		}
		x.verify()
	}
}

// Each query tells all that the ones ahead told of, and what came since.
func TestWhatIsToldDoesNotShrink(t *testing.T) {
	x := newScript(t, 3, numbers("t", false))
	r := x.reader()
	told := 0
	for n := range int64(60) {
		x.begin(int(n%3), put("t", num(n), num(n)))
		for x.s.Working() == 3 {
			x.step(int((n + 1) % 3))
		}
		x.s.Advance()
		results, _ := x.ask(r, scan("t"))
		rows := len(results[0].Rows)
		if rows < told {
			t.Fatalf("%d rows behind %d", rows, told)
		}
		told = rows
	}
	x.turns()
	x.advance(3)
	if results, _ := x.ask(r, scan("t")); len(results[0].Rows) != 60 || told == 0 || told == 60 {
		t.Error(len(results[0].Rows), told)
	}
	x.verify()
}

// Each reader has its own last epoch.
func TestTwoReadersOfOneStore(t *testing.T) {
	x := newScript(t, 1, numbers("t", false))
	a, b := x.reader(), x.reader()
	lasts := func(one, two int) {
		t.Helper()
		if a.Last() != one || b.Last() != two {
			t.Errorf("%d and %d, not %d and %d", a.Last(), b.Last(), one, two)
		}
	}
	x.done(0, put("t", num(1), num(1)))
	x.advance(2)
	x.sees(a, "t", row{num(1), num(1)})
	lasts(1, 0)
	x.done(0, put("t", num(2), num(2)))
	x.advance(1)
	lasts(1, 0)
	x.sees(b, "t", row{num(1), num(1)})
	lasts(1, 2)
	x.advance(1)
	x.sees(b, "t", row{num(1), num(1)}, row{num(2), num(2)})
	lasts(1, 3)
	x.sees(a, "t", row{num(1), num(1)}, row{num(2), num(2)})
	lasts(3, 3)
	b.Read([]api.Op{{}})
	lasts(3, 3)
	x.verify()
}

// Readers of two stores tell each of its own one.
func TestReadersOfTwoStores(t *testing.T) {
	x, y := newScript(t, 1, numbers("t", false)), newScript(t, 2, example())
	a, b := x.reader(), y.reader()
	x.done(0, put("t", num(1), num(1)))
	y.done(1, put("t", num(2), txt("x")))
	x.advance(2)
	x.sees(a, "t", row{num(1), num(1)})
	y.seesNone(b, "t")
	y.advance(5)
	y.sees(b, "t", row{num(2), txt("x")})
	x.sees(a, "t", row{num(1), num(1)})
	if a.Last() != 1 || b.Last() != 4 {
		t.Error(a.Last(), b.Last())
	}
	x.drop("t")
	x.advance(3)
	x.seesNone(a, "t")
	y.sees(b, "t", row{num(2), txt("x")})
	x.verify()
	y.verify()
}
