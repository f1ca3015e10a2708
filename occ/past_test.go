package occ_test

import (
	"strings"
	"testing"

	"hopper/api"
	"hopper/occ"
)

// 16.6: data of past epochs. (A script holds all of them against the order in the end.)

func noData(t *testing.T, s *occ.Store, epochs ...int) {
	t.Helper()
	for _, epoch := range append(extremes(), epochs...) {
		if d, e := s.AsOf(epoch); d != nil || e != api.ErrRange {
			t.Errorf("AsOf %d: %v %d", epoch, d, e)
		}
	}
}

// rowsAt holds the rows of a table at an epoch.
func rowsAt(t *testing.T, s *occ.Store, epoch int, name string, want ...row) {
	t.Helper()
	d, e := s.AsOf(epoch)
	if e != api.OK {
		t.Errorf("AsOf %d: %d", epoch, e)
		return
	}
	if list, e := d.Rows(name); e != api.OK || !sameRows(list, want) {
		t.Errorf("AsOf %d: %s %d, not %s", epoch, brief(list), e, brief(want))
	}
}

func tablesAt(t *testing.T, s *occ.Store, epoch int, want string) {
	t.Helper()
	d, e := s.AsOf(epoch)
	if e != api.OK {
		t.Errorf("AsOf %d: %d", epoch, e)
		return
	}
	if is := strings.Join(d.Tables(), " "); is != want {
		t.Errorf("AsOf %d: %s, not %s", epoch, is, want)
	}
}

func TestWhichEpochsMayBeAsked(t *testing.T) {
	x := newScript(t, 2, numbers("t", false))
	s := x.s
	all := func(last int) {
		t.Helper()
		for epoch := range last + 1 {
			if d, e := s.AsOf(epoch); d == nil || e != api.OK {
				t.Errorf("AsOf %d: %d", epoch, e)
			}
		}
		noData(t, s, last+1, last+2)
	}
	// Nobody works: the global one may be asked.
	for last := 1; last < 6; last++ {
		all(last)
		s.Advance()
	}
	all(6)
	// Somebody works: the snapshot epoch.
	x.begin(1, put("t", num(1), num(1)))
	all(4)
	s.Advance()
	all(5)
	s.Advance()
	all(5)
	x.begin(0)
	all(5)
	x.run(1)
	all(5)
	s.Advance()
	all(6)
	x.run(0)
	all(8)
	x.verify()
}

// Of each epoch all that was committed up to it, and nothing of later ones.
func TestRowsOfEpochs(t *testing.T) {
	x := newScript(t, 2, numbers("t", true))
	s := x.s
	x.done(0, put("t", num(1), num(1)))
	x.done(1, put("t", num(2), num(2)))
	x.done(0, add("t", 1, 5, num(1)))
	s.Advance() // 2
	s.Advance() // 3
	x.done(0, del("t", num(1)), put("t", num(3), num(1)))
	s.Advance() // 4
	x.done(1, put("t", num(1), num(9)))
	x.done(1, del("t", num(1)))
	s.Advance() // 5
	x.done(0, put("t", num(1), num(6)), del("t", num(2)))
	x.done(0, put("t", num(2), num(2)))
	s.Advance() // 6
	x.do(0, put("t", num(7), num(7)), get("u"))
	want := [][]row{
		1: {{num(1), num(6)}, {num(2), num(2)}},
		2: {{num(1), num(6)}, {num(2), num(2)}},
		3: {{num(2), num(2)}, {num(3), num(1)}},
		4: {{num(2), num(2)}, {num(3), num(1)}},
		5: {{num(1), num(6)}, {num(2), num(2)}, {num(3), num(1)}},
		6: {{num(1), num(6)}, {num(2), num(2)}, {num(3), num(1)}},
	}
	for epoch := 1; epoch <= 6; epoch++ {
		rowsAt(t, s, epoch, "t", want[epoch]...)
	}
	tablesAt(t, s, 0, "")
	// While somebody works the past stays as it is.
	x.begin(0, put("t", num(1), num(77)), del("t", num(3)), insert("t", num(4), num(4)))
	for done := false; !done; {
		for epoch := 1; epoch <= 4; epoch++ {
			rowsAt(t, s, epoch, "t", want[epoch]...)
		}
		noData(t, s, 5, 6)
		done = x.step(0)
	}
	rowsAt(t, s, 5, "t", want[5]...)
	rowsAt(t, s, 6, "t", row{num(1), num(77)}, row{num(2), num(2)}, row{num(4), num(4)})
	x.verify()
}

func TestTablesOfEpochs(t *testing.T) {
	x := newScript(t, 2)
	s := x.s
	x.create(numbers("t", true))
	x.done(0, put("t", num(1), num(1)))
	s.Advance() // 2
	x.create(wide())
	s.Advance() // 3
	x.drop("t")
	x.create(numbers("gone", true))
	x.done(0, put("gone", num(1), num(1)))
	x.drop("gone")
	s.Advance() // 4
	x.create(example())
	x.done(1, put("t", num(1), txt("again")))
	s.Advance() // 5
	x.drop("t")
	x.create(numbers("t", false))
	x.done(1, put("t", num(5), num(5)))
	x.drop("w")
	s.Advance() // 6
	for epoch, want := range []string{"", "t", "t w", "w", "t w", "t", "t"} {
		tablesAt(t, s, epoch, want)
	}
	rowsAt(t, s, 1, "t", row{num(1), num(1)})
	rowsAt(t, s, 2, "t", row{num(1), num(1)})
	rowsAt(t, s, 4, "t", row{num(1), txt("again")})
	rowsAt(t, s, 5, "t", row{num(5), num(5)})
	rowsAt(t, s, 6, "t", row{num(5), num(5)})
	for _, epoch := range []int{1, 2} {
		d, _ := s.AsOf(epoch)
		if list, e := d.Index("t", "i"); e != api.OK || !sameRows(list, []row{{num(1), num(1)}}) {
			t.Error(list, e)
		}
	}
	// While somebody works it is the same, up to the snapshot epoch.
	x.begin(0, put("t", num(1), num(8)), del("t", num(5)))
	for done := false; !done; done = x.step(0) {
		for epoch, want := range []string{"", "t", "t w", "w", "t w"} {
			tablesAt(t, s, epoch, want)
		}
		rowsAt(t, s, 2, "t", row{num(1), num(1)})
		rowsAt(t, s, 4, "t", row{num(1), txt("again")})
		noData(t, s, 5, 6)
	}
	// A table that is created while the epoch is the same as that of a dropped one's rows.
	x.drop("t")
	x.create(numbers("t", true))
	x.done(0, insert("t", num(5), num(6)))
	rowsAt(t, s, 6, "t", row{num(5), num(6)})
	rowsAt(t, s, 5, "t", row{num(5), num(5)})
	x.verify()
}

// Data are their own: what is done with them changes neither the store nor other data.
func TestDataAreTheirOwn(t *testing.T) {
	x := newScript(t, 1, numbers("t", false))
	x.done(0, put("t", num(1), num(1)), put("t", num(2), num(2)))
	before := state(x.s)
	a, _ := x.s.AsOf(1)
	b, _ := x.s.AsOf(1)
	if _, done, e := a.Apply([]api.Op{put("t", num(3), num(3)), del("t", num(1)), add("t", 1, 5, num(2))}); !done || e != api.OK {
		t.Error(done, e)
	}
	rows, _ := b.Rows("t")
	a.Drop("t")
	a.Create(wide())
	if !sameRows(rows, []row{{num(1), num(1)}, {num(2), num(2)}}) {
		t.Error(rows)
	}
	same(t, x.s, before)
	if r := x.done(0, scan("t")); len(r[0].Rows) != 2 {
		t.Error(r)
	}
	// Nor is the store's state in data that were told ahead.
	x.done(0, put("t", num(9), num(9)))
	x.drop("t")
	if again, e := b.Rows("t"); e != api.OK || !sameRows(again, rows) {
		t.Error(again, e)
	}
	x.verify()
}

// A query of an epoch is in nobody's way, and takes no step.
func TestAsOfIsInNobodysWay(t *testing.T) {
	run := func(look bool) string {
		tables := []api.Table{numbers("t", true), wide()}
		r := drawnOf(3, 3, 3, 6)
		x := newScript(t, 4, tables...)
		out := ""
		for range 2000 {
			w := r.Intn(4)
			switch {
			case r.Intn(30) == 0:
				x.s.Advance()
			case x.at[w] == nil:
				x.begin(w, r.batch(tables, 4)...)
			case x.step(w):
				out += brief(x.begun[len(x.begun)-1].out)
			}
			if look {
				x.look(x.s.Snapshot())
			}
		}
		x.verify()
		return out + state(x.s)
	}
	if run(false) != run(true) {
		t.Error("with AsOf they come to something else")
	}
}
