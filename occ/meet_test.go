package occ_test

import (
	"fmt"
	"slices"
	"strings"
	"testing"

	"hopper/api"
)

// 16.4: transactions that meet, one way after the other.

// meeting is what some transactions do at once, behind what was done ahead.
type meeting struct {
	name   string
	tables []api.Table
	ahead  []api.Op
	all    [][]api.Op
	free   bool // none has to be aborted, however they meet
}

func meetings() []meeting {
	t, u := numbers("t", false), numbers("t", true)
	one, two := put("t", num(1), num(1)), put("t", num(2), num(2))
	three := []api.Op{one, two, put("t", num(3), num(3))}
	return []meeting{
		{"two that raise one number", []api.Table{t}, []api.Op{one}, [][]api.Op{{add("t", 1, 1, num(1))}, {add("t", 1, 5, num(1))}}, false},
		{"one reads what the other one writes, and the other way round", []api.Table{t}, []api.Op{one, two}, [][]api.Op{{get("t", num(1)), put("t", num(2), num(9))}, {get("t", num(2)), put("t", num(1), num(9))}}, false},
		{"one reads two rows that the other one writes", []api.Table{t}, []api.Op{one, two}, [][]api.Op{{get("t", num(1)), get("t", num(2))}, {put("t", num(1), num(8)), put("t", num(2), num(9))}}, false},
		{"one scans while the other one puts a row in", []api.Table{t}, three, [][]api.Op{{scan("t"), put("t", num(9), num(9))}, {insert("t", num(4), num(4)), scan("t")}}, false},
		{"one scans while the other one takes a row away", []api.Table{t}, three, [][]api.Op{{scan("t"), scan("t")}, {del("t", num(2)), put("t", num(7), num(7))}}, false},
		{"one scans the first rows", []api.Table{t}, three, [][]api.Op{{scanFrom("t", nil, nil, 2), scanFrom("t", row{num(2)}, row{num(9)}, 1)}, {del("t", num(1)), insert("t", num(0), num(0))}}, false},
		{"one looks for a row that the other one puts in", []api.Table{t}, []api.Op{one}, [][]api.Op{{get("t", num(5)), get("t", num(1))}, {put("t", num(5), num(5)), add("t", 1, 1, num(1))}}, false},
		{"both put the same row in", []api.Table{t}, nil, [][]api.Op{{insert("t", num(5), num(1))}, {insert("t", num(5), num(2))}}, false},
		{"one puts in what the other one takes away", []api.Table{t}, []api.Op{one}, [][]api.Op{{del("t", num(1)), insert("t", num(1), num(8))}, {del("t", num(1)), scan("t")}}, false},
		{"one searches by an index while rows come and go there", []api.Table{t}, three, [][]api.Op{{find("t", "i", num(2)), find("t", "i", num(7))}, {put("t", num(1), num(2)), put("t", num(2), num(7))}}, false},
		{"one searches by an index, and writes what the other one searches", []api.Table{t}, three, [][]api.Op{{find("t", "i", num(2)), put("t", num(8), num(3))}, {find("t", "i", num(3)), put("t", num(9), num(2))}}, false},
		{"one finds the first row by an index", []api.Table{t}, []api.Op{put("t", num(2), num(7)), put("t", num(4), num(7))}, [][]api.Op{{{Kind: api.OFind, Table: "t", Index: "i", Key: row{num(7)}, Limit: 1}, get("t", num(1))}, {put("t", num(1), num(7)), del("t", num(2))}}, false},
		{"both put the same value in", []api.Table{u}, three, [][]api.Op{{put("t", num(5), num(50))}, {put("t", num(6), num(50))}}, false},
		{"one is refused, the other one takes the reason away", []api.Table{u}, three, [][]api.Op{{get("t", num(3)), put("t", num(9), num(1))}, {put("t", num(1), num(10)), put("t", num(3), num(30))}}, false},
		{"both change values about", []api.Table{u}, []api.Op{one, two}, [][]api.Op{{put("t", num(1), null()), put("t", num(2), num(1)), put("t", num(1), num(2))}, {put("t", num(2), num(7)), put("t", num(1), num(2))}}, false},
		{"both take values, the one in another order", []api.Table{u}, nil, [][]api.Op{{put("t", num(1), num(7)), put("t", num(2), num(8))}, {put("t", num(3), num(8)), put("t", num(4), num(7))}}, false},
		{"one row becomes another one's value", []api.Table{u}, []api.Op{one}, [][]api.Op{{add("t", 1, 1, num(1))}, {insert("t", num(2), num(2))}}, false},
		{"rows of two tables", []api.Table{t, numbers("u", true)}, []api.Op{one, put("u", num(1), num(1))}, [][]api.Op{{get("t", num(1)), add("u", 1, 1, num(1))}, {get("u", num(1)), add("t", 1, 1, num(1))}}, false},
		{"rows that have nothing to do with one another", []api.Table{u}, three, [][]api.Op{{get("t", num(1)), put("t", num(1), num(11)), insert("t", num(10), num(100))}, {add("t", 1, 20, num(2)), put("t", num(20), num(200)), del("t", num(3))}}, true},
		{"both put rows in side by side", []api.Table{t}, nil, [][]api.Op{{insert("t", num(1), num(1)), insert("t", num(3), num(3))}, {insert("t", num(2), num(2)), insert("t", num(4), num(4))}}, true},
		{"both put rows in that have no value", []api.Table{u}, nil, [][]api.Op{{insert("t", num(1), null()), get("t", num(1))}, {insert("t", num(2), null()), put("t", num(4), null())}}, true},
		{"a value comes and goes while one looks for it", []api.Table{t}, three, [][]api.Op{{find("t", "i", num(7)), get("t", num(3))}, {put("t", num(1), num(7))}, {put("t", num(1), num(6))}}, false},
		{"a row comes and goes while one looks for it", []api.Table{t}, three, [][]api.Op{{get("t", num(7)), scanFrom("t", row{num(5)}, nil, most), get("t", num(3))}, {insert("t", num(7), num(7))}, {del("t", num(7))}}, false},
		{"a value is another row's meanwhile", []api.Table{u}, three, [][]api.Op{{put("t", num(9), num(9)), get("t", num(3))}, {put("t", num(8), num(9))}, {put("t", num(8), num(8))}}, false},
		{"three in a ring", []api.Table{t}, three, [][]api.Op{{get("t", num(1)), put("t", num(2), num(0))}, {get("t", num(2)), put("t", num(3), num(0))}, {get("t", num(3)), put("t", num(1), num(0))}}, false},
	}
}

func (m meeting) begin(t *testing.T) *script {
	x := newScript(t, len(m.all), m.tables...)
	x.done(0, m.ahead...)
	for w, ops := range m.all {
		x.begin(w, ops...)
	}
	return x
}

// steps lets a worker take so many steps, if it works as long.
func (x *script) steps(w, many int) {
	x.Helper()
	for range many {
		if x.at[w] == nil {
			return
		}
		x.step(w)
	}
}

// longest is how many steps one takes at most, alone.
func (m meeting) longest(t *testing.T) int {
	n := 0
	for w, ops := range m.all {
		x := newScript(t, len(m.all), m.tables...)
		x.done(0, m.ahead...)
		b := x.begin(w, ops...)
		x.run(w)
		n = max(n, b.steps)
	}
	return n
}

// ends counts those that were committed or refused, and those that were aborted, but for the one ahead.
func (x *script) ends() (placed, aborted int) {
	for _, b := range x.begun[1:] {
		if b.out.Step > 0 {
			placed++
		} else {
			aborted++
		}
	}
	return placed, aborted
}

// Each takes some steps, another one some, each some more: so that the second falls into every gap of the first, and the first into every one of the second.
func TestMeetings(t *testing.T) {
	for _, m := range meetings() {
		t.Run(m.name, func(t *testing.T) {
			t.Parallel()
			longest := m.longest(t)
			everAborted := false
			try := func(take func(x *script)) {
				x := m.begin(t)
				take(x)
				x.verify()
				_, aborted := x.ends()
				everAborted = everAborted || aborted > 0
			}
			for a := range len(m.all) {
				for i := range longest + 1 {
					for j := 1; j <= longest; j++ {
						b, c := (a+1)%len(m.all), (a+2)%len(m.all)
						try(func(x *script) { x.steps(a, i); x.steps(b, j); x.steps(a, most); x.steps(b, most) })
						try(func(x *script) { x.steps(a, i); x.steps(b, most); x.steps(a, j); x.steps(c, most) })
						try(func(x *script) {
							x.steps(a, i)
							x.steps(b, j)
							x.s.Advance()
							x.steps(a, 1)
							x.steps(b, 1)
							x.turns()
						})
					}
				}
			}
			if everAborted == m.free {
				t.Errorf("one was aborted: %t", everAborted)
			}
		})
	}
}

// If they meet in one row or value alone, one of them at least goes on.
func TestOneOfTwoGoesOn(t *testing.T) {
	for _, m := range meetings() {
		if !strings.HasPrefix(m.name, "both ") && !strings.HasPrefix(m.name, "two ") {
			continue
		}
		longest := m.longest(t)
		for i := range longest + 1 {
			for j := range longest + 1 {
				x := m.begin(t)
				x.steps(0, i)
				x.steps(1, j)
				x.turns()
				if placed, _ := x.ends(); placed == 0 {
					t.Errorf("%s: both were aborted behind %d and %d steps", m.name, i, j)
				}
				x.verify()
			}
		}
	}
}

// Whoever comes between is seen whole or not at all, also by what is refused.
func TestManyThatMeet(t *testing.T) {
	y := wide()
	for seed := range int64(40) {
		r := drawnOf(seed, 2, 3, 7)
		x := newScript(t, 16, y)
		for range 5 {
			for w := range 16 {
				x.begin(w, r.batch([]api.Table{y}, 3)...)
			}
			for x.s.Working() > 0 {
				if w := r.Intn(16); x.at[w] != nil {
					x.step(w)
				}
				if r.Intn(50) == 0 {
					x.s.Advance()
				}
			}
		}
		x.verify()
	}
}

// Tables come and go between transactions, some by the same name with another schema.
func TestTablesComeAndGo(t *testing.T) {
	for seed := range int64(60) {
		r := drawnOf(seed, 3, 3, 6)
		x := newScript(t, 4)
		for range 25 {
			for _, name := range []string{"t", "u", "w"} {
				y, there := x.schema[name]
				switch {
				case there && r.Intn(3) == 0:
					x.drop(name)
				case !there && r.Intn(2) == 0 && name == "w":
					x.create(wide())
				case !there && r.Intn(2) == 0:
					y = numbers(name, r.Intn(2) == 0)
					x.create(y)
				}
			}
			tables := []api.Table{numbers("nobody", true)}
			for _, y := range x.schema {
				tables = append(tables, y)
			}
			slices.SortFunc(tables, func(a, b api.Table) int { return strings.Compare(a.Name, b.Name) })
			x.play(r, tables, 25, 4)
			x.turns()
			for range r.Intn(3) {
				x.s.Advance()
			}
		}
		x.verify()
	}
}

// Scans of many rows, over many nodes of the tree, some of which are gone.
func TestManyRows(t *testing.T) {
	x := newScript(t, 4, numbers("t", false))
	var ops []api.Op
	for n := range int64(1000) {
		ops = append(ops, put("t", num(n), num(n%7)))
	}
	x.done(0, ops...)
	ops = nil
	for n := range int64(1000) {
		if n%3 > 0 {
			ops = append(ops, del("t", num(n)))
		}
	}
	x.done(1, ops...)
	x.done(2, scan("t"), scanFrom("t", row{num(100)}, row{num(900)}, 7), scanFrom("t", row{num(500)}, nil, 1), find("t", "i", num(3)), api.Op{Kind: api.OFind, Table: "t", Index: "i", Key: row{num(3)}, Limit: 2})
	r := drawnOf(5, 1000, 7, 6)
	x.play(r, []api.Table{numbers("t", false)}, 4000, 10)
	x.verify()
}

// A scan that is told just its first rows is not in the way of rows behind them.
func TestScansSeeNoFurtherThanTheyTell(t *testing.T) {
	x := newScript(t, 2, numbers("t", false))
	var ops []api.Op
	for n := range int64(400) {
		ops = append(ops, put("t", num(10*n), num(n%2)))
	}
	x.done(0, ops...)
	for i, op := range []api.Op{scanFrom("t", row{num(15)}, nil, 3), {Kind: api.OFind, Table: "t", Index: "i", Key: row{num(1)}, Limit: 3}} {
		b := x.begin(0, op, put("t", num(2), num(2)))
		x.steps(0, 7)
		x.done(1, insert("t", num(int64(1001+i)), num(1)), del("t", num(2000)), add("t", 1, 0, num(int64(3000+10*i))))
		if o := x.run(0); !o.Committed {
			t.Errorf("%s: %s behind %d steps", brief(op), brief(o), b.steps)
		}
	}
	x.verify()
}

// Nor is it, if some of the first rows are gone: those behind them are gone over one by one.
func TestScansOverGoneRowsSeeNoFurther(t *testing.T) {
	for ahead := range 30 {
		x := newScript(t, 2, numbers("t", false))
		var ops []api.Op
		for n := range int64(20) {
			ops = append(ops, put("t", num(n), num(5)))
		}
		x.done(0, ops...)
		x.done(0, del("t", num(2)), put("t", num(3), num(6)))
		for _, op := range []api.Op{scanFrom("t", row{num(1)}, nil, 4), {Kind: api.OFind, Table: "t", Index: "i", Key: row{num(5)}, Limit: 5}} {
			x.begin(0, op)
			x.steps(0, ahead)
			x.done(1, add("t", 1, 0, num(7)), put("t", num(8), num(9)), put("t", num(8), num(5)))
			if x.at[0] == nil {
				continue
			}
			if o := x.run(0); !o.Committed {
				t.Errorf("%s behind %d steps: %s", brief(op), ahead, brief(o))
			}
		}
		x.verify()
	}
}

// Texts in an index may be longer than a tree's key; so may many of them together. A row's key may have just as many bytes as a tree's key.
func TestLongValues(t *testing.T) {
	y := api.Table{Name: "l", Columns: []api.Column{{Name: "a", Kind: api.VText}}, Key: 1}
	all := []int{}
	for n := 1; n < 32; n++ {
		y.Columns = append(y.Columns, api.Column{Name: fmt.Sprint("c", n), Kind: api.VText})
		all = append(all, n)
	}
	y.Indexes = []api.Index{{Name: "u", Columns: append(all, 1), Unique: true}, {Name: "k", Columns: []int{1, 0}}}
	x := newScript(t, 2, y)
	rowOf := func(k, s string) row {
		list := row{txt(k)}
		for range 31 {
			list = append(list, txt(s))
		}
		return list
	}
	zero, other := strings.Repeat("\x00", 4096), strings.Repeat("\x00", 4095)+"x"
	key := strings.Repeat("k", 4096-3)
	if o := x.do(0, put("l", rowOf("a", zero)...), put("l", rowOf(key, other)...), put("l", rowOf("c", zero)...)); o.Committed || len(o.Results) != 3 || o.Results[2].Code != api.ErrUnique {
		t.Error(o.Committed, len(o.Results))
	}
	x.done(0, put("l", rowOf("a", zero)...), put("l", rowOf(key, other)...))
	if r := x.done(1, find("l", "k", txt(zero), txt("a")), find("l", "k", txt(other), txt("a")), find("l", "u", append(rowOf("", zero)[1:], txt(zero))...), get("l", txt(key)), scan("l")); len(r[0].Rows) != 1 || len(r[1].Rows) != 0 || len(r[2].Rows) != 1 || len(r[3].Rows) != 1 || len(r[4].Rows) != 2 {
		t.Error("not found")
	}
	x.begin(0, put("l", rowOf("p", "p")...), put("l", rowOf("a", "q")...))
	x.begin(1, put("l", rowOf("s", zero)...), del("l", txt(key)), put("l", rowOf("r", "p")...))
	x.turns()
	x.verify()
}

// An index's values change more often than a tree has room: what is stale goes.
func TestValuesThatChangeOften(t *testing.T) {
	x := newScript(t, 1, numbers("t", true))
	x.done(0, put("t", num(1), num(0)))
	for range 6 {
		var ops []api.Op
		for range 1000 {
			ops = append(ops, add("t", 1, 1, num(1)))
		}
		x.done(0, ops...)
	}
	for range 5000 {
		x.done(0, add("t", 1, 1, num(1)))
	}
	if r := x.done(0, find("t", "i", num(11000)), find("t", "i", num(10999))); len(r[0].Rows) != 1 || len(r[1].Rows) != 0 {
		t.Error(r)
	}
	x.verify()
}

// Batches that are aborted leave nothing, however many keys they had.
func TestAbortedLeaveNothing(t *testing.T) {
	x := newScript(t, 2, numbers("t", true))
	x.done(0, put("t", num(-1), num(-1)))
	for round := range int64(12) {
		ops := []api.Op{get("t", num(-1))}
		for n := range int64(500) {
			ops = append(ops, insert("t", num(1000*round+n), num(1000*round+n)))
		}
		b := x.begin(0, ops...)
		x.steps(0, 1000)
		x.done(1, add("t", 1, -1, num(-1)))
		x.run(0)
		if b.out.Step > 0 {
			t.Fatal("it was not aborted")
		}
	}
	if r := x.done(0, scan("t"), insert("t", num(-5), num(5))); len(r[0].Rows) != 1 {
		t.Error(r)
	}
	x.verify()
}
