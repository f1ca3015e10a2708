package occ_test

import (
	"fmt"
	"testing"

	"hopper/api"
)

// 16.5: who is not aborted, and how soon all have ended. (A script fails if one is aborted while nobody else writes, or takes more steps than it may.)

// Each transaction alone, one after the other, by any worker.
func TestAlone(t *testing.T) {
	for seed := range int64(30) {
		tables := []api.Table{wide(), numbers("t", true), numbers("u", false)}
		r := drawnOf(seed, 4, 5, 6)
		x := newScript(t, 3, tables...)
		for range 60 {
			if o := x.do(r.Intn(3), r.batch(tables, 8)...); o.Step == 0 {
				t.Fatal("aborted")
			}
			if r.Intn(4) == 0 {
				x.s.Advance()
			}
		}
		x.verify()
	}
}

// A batch that searches, and puts rows in just there, again and again, is not in its own way.
func TestAloneInItsOwnWay(t *testing.T) {
	for _, unique := range []bool{false, true} {
		x := newScript(t, 1, numbers("t", unique))
		var ops []api.Op
		for n := range int64(100) {
			ops = append(ops,
				scan("t"), scanFrom("t", row{num(n - 3)}, row{num(n + 3)}, 2), find("t", "i", num(n)), get("t", num(n+1)),
				insert("t", num(n), num(n)), find("t", "i", num(n)), add("t", 1, 1000, num(n)), find("t", "i", num(n)), put("t", num(n), num(n-1000)))
			if n%5 == 0 {
				ops = append(ops, del("t", num(n)), scan("t"), insert("t", num(n), null()), find("t", "i", null()))
			}
		}
		for range 3 {
			x.done(0, ops...)
			x.done(0, append([]api.Op{scan("t")}, clearing(100)...)...)
		}
		x.verify()
	}
}

func clearing(many int64) []api.Op {
	var ops []api.Op
	for n := range many {
		ops = append(ops, del("t", num(n)))
	}
	return ops
}

// Behind those that were aborted one is alone as ever: nothing is left locked.
func TestAloneBehindTheAborted(t *testing.T) {
	for seed := range int64(40) {
		tables := []api.Table{numbers("t", true), wide()}
		r := drawnOf(seed, 3, 3, 8)
		x := newScript(t, 8, tables...)
		for range 6 {
			for w := range 8 {
				x.begin(w, r.batch(tables, 4)...)
			}
			x.turns()
			all := []api.Op{scan("t"), scan("w")}
			for n := range int64(3) {
				all = append(all, put("t", num(n), num(n+100)), put("t", num(n), num(n)), del("w", num(n), txt("p")), put("w", num(n), txt("q"), num(n+7), txt("x"), num(n+7)))
			}
			if o := x.do(r.Intn(8), all...); o.Step == 0 {
				t.Fatal("aborted")
			}
		}
		x.verify()
	}
}

// Readers beside one another, and beside one that writes: that one is not aborted.
func TestBesideReaders(t *testing.T) {
	committed := 0
	for seed := range int64(60) {
		tables := []api.Table{numbers("t", true), wide()}
		r := drawnOf(seed, 4, 4, 7)
		readers := drawnOf(seed+1000, 4, 4, 0)
		x := newScript(t, 8, tables...)
		reads := func() []api.Op {
			for {
				if ops := readers.batch(tables, 5); onlyReads(ops) {
					return ops
				}
			}
		}
		for range 20 {
			writer := x.begin(7, r.batch(tables, 6)...)
			for w := range 7 {
				x.begin(w, reads()...)
			}
			for x.s.Working() > 0 {
				if w := r.Intn(8); x.at[w] != nil {
					x.step(w)
				}
			}
			if writer.out.Step == 0 {
				t.Fatal("aborted beside readers")
			}
			if writer.out.Committed {
				committed++
			}
			// And readers alone.
			for w := range 8 {
				x.begin(w, reads()...)
			}
			x.turns()
		}
		for _, b := range x.begun {
			if b.out.Step == 0 && !b.amongWrites {
				t.Fatal("aborted")
			}
		}
		x.verify()
	}
	if committed == 0 {
		t.Error("nothing was committed")
	}
}

// By turns all have ended soon, whatever they do: each within as many turns as its own bound.
func TestTurns(t *testing.T) {
	for seed := range int64(40) {
		tables := []api.Table{numbers("t", true), wide()}
		r := drawnOf(seed, 2+seed%5, 3, 6)
		x := newScript(t, 16, tables...)
		for range 5 {
			for w := range 16 {
				x.begin(w, r.batch(tables, 6)...)
			}
			x.turns()
		}
		x.verify()
	}
}

// The bound is least where one key has all indexes that there may be, all of them unique.
func TestTurnsOfOneKey(t *testing.T) {
	y := api.Table{Name: "e", Columns: []api.Column{{Name: "k", Kind: api.VInt}}, Key: 1}
	for n := range 8 {
		y.Columns = append(y.Columns, api.Column{Name: fmt.Sprint("c", n), Kind: api.VInt})
		y.Indexes = append(y.Indexes, api.Index{Name: fmt.Sprint("i", n), Columns: []int{n + 1}, Unique: true})
	}
	rowOf := func(k, n int64) row {
		list := row{num(k)}
		for range 8 {
			list = append(list, num(n))
		}
		return list
	}
	for _, many := range []int64{1, 2, 3, 50} {
		x := newScript(t, 2, y)
		for round := range int64(3) {
			for w := range int64(2) {
				var ops []api.Op
				for n := range many {
					ops = append(ops, put("e", rowOf(1, 1000*round+100*w+n)...))
				}
				x.begin(int(w), ops...)
			}
			x.turns()
		}
		x.verify()
	}
	// A table without rows has no keys.
	x := newScript(t, 2, y)
	for w := range 2 {
		x.begin(w, scan("e"), find("e", "i0", num(1)), find("e", "i0", num(1)), scanFrom("e", row{num(5)}, row{num(6)}, 1))
	}
	x.turns()
	x.verify()
}

// Rows that are gone are gone over one by one, however few are to be told.
func TestTurnsOverRowsThatAreGone(t *testing.T) {
	x := newScript(t, 2, numbers("t", false))
	var ops []api.Op
	for n := range int64(300) {
		ops = append(ops, put("t", num(n), num(0)))
	}
	x.done(0, ops...)
	x.done(0, clearing(299)...)
	for limit := range 4 {
		for w := range 2 {
			x.begin(w, scanFrom("t", nil, nil, limit+1), find("t", "i", num(0)), scanFrom("t", nil, nil, limit+1), put("t", num(int64(w)), num(0)))
		}
		x.turns()
	}
	x.verify()
}
