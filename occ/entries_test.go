package occ_test

import (
	"testing"

	"hopper/api"
	"hopper/key"
	"hopper/table"
	"hopper/tid"
)

// 16.7: what was written. (A script holds all entries against the order in the end.)

func keyOf(t *testing.T, values ...api.Value) string {
	t.Helper()
	k, e := key.Encode(values)
	if e != api.OK {
		t.Fatal(e)
	}
	return k
}

func wrote(t *testing.T, name string, k int64, r ...api.Value) api.Write {
	t.Helper()
	return api.Write{Table: name, Key: keyOf(t, num(k)), Gone: r == nil, Row: r}
}

// holdsEntries holds epochs and writes of entries.
func holdsEntries(t *testing.T, list []api.Entry, epoch int, want ...[]api.Write) {
	t.Helper()
	if len(list) != len(want) {
		t.Errorf("%d entries, not %d: %s", len(list), len(want), brief(list))
		return
	}
	for i, x := range list {
		n, _, locked, absent, latest, e := tid.Unpack(x.Tid)
		if n != epoch || locked || absent || latest || e != api.OK || !sameWrites(x.Writes, want[i]) {
			t.Errorf("the entry %d of the epoch %d: %s, not %s of %d", i, n, brief(x), brief(want[i]), epoch)
		}
	}
}

func TestEntries(t *testing.T) {
	x := newScript(t, 3, numbers("t", true), numbers("s", false))
	holdsEntries(t, x.entries(), 1)
	// Nothing is written by reads, by what is refused, by what takes nothing away, by nothing.
	x.done(0, scan("t"), get("t", num(1)), find("t", "i", num(1)), del("t", num(1)))
	x.done(0)
	x.do(0, put("t", num(1), num(1)), get("u"))
	holdsEntries(t, x.entries(), 1)
	x.done(0, put("t", num(1), num(1)))
	holdsEntries(t, x.entries(), 1, []api.Write{wrote(t, "t", 1, num(1), num(1))})
	holdsEntries(t, x.entries(), 1)
	x.s.Advance()
	// Each row as it was written at last, by tables' names, then by keys.
	x.done(1,
		put("t", num(5), num(5)), put("t", num(-3), num(3)), put("s", num(9), num(9)), insert("t", num(4), null()), put("s", num(0), num(7)),
		add("t", 1, 2, num(5)), del("t", num(1)), insert("t", num(1), num(11)), put("t", num(7), num(77)), del("t", num(7)), del("s", num(8)), add("s", 1, 0, num(0)))
	x.done(0, del("s", num(9)), del("t", num(-3)), put("t", num(4), null()))
	holdsEntries(t, x.entries(), 2,
		[]api.Write{
			wrote(t, "s", 0, num(0), num(7)), wrote(t, "s", 9, num(9), num(9)),
			wrote(t, "t", -3, num(-3), num(3)), wrote(t, "t", 1, num(1), num(11)), wrote(t, "t", 4, num(4), null()), wrote(t, "t", 5, num(5), num(7)), wrote(t, "t", 7),
		},
		[]api.Write{wrote(t, "s", 9), wrote(t, "t", -3), wrote(t, "t", 4, num(4), null())},
	)
	holdsEntries(t, x.entries(), 2)
	x.verify()
}

// Keys of more than one value, with texts.
func TestEntriesOfLongKeys(t *testing.T) {
	x := newScript(t, 1, wide())
	a, b := row{num(1), txt("x\x00y"), num(7), txt("s"), null()}, row{num(1), txt("x"), null(), null(), null()}
	x.done(0, put("w", a...), put("w", b...))
	holdsEntries(t, x.entries(), 1, []api.Write{{Table: "w", Key: keyOf(t, b[:2]...), Row: b}, {Table: "w", Key: keyOf(t, a[:2]...), Row: a}})
	x.verify()
}

// What is aborted writes nothing, however far it had come.
func TestEntriesOfAborted(t *testing.T) {
	aborted := 0
	for ahead := range 40 {
		x := newScript(t, 2, numbers("t", true))
		x.done(0, put("t", num(1), num(1)))
		x.entries()
		b := x.begin(0, get("t", num(1)), put("t", num(2), num(2)), put("t", num(3), num(3)))
		x.steps(0, ahead)
		over := b.over
		x.done(1, put("t", num(1), num(5)))
		x.turns()
		mine := []api.Write{wrote(t, "t", 2, num(2), num(2)), wrote(t, "t", 3, num(3), num(3))}
		other := []api.Write{wrote(t, "t", 1, num(1), num(5))}
		switch {
		case b.out.Step == 0:
			aborted++
			holdsEntries(t, x.entries(), 1, other)
		case over:
			holdsEntries(t, x.entries(), 1, mine, other)
		case b.out.Step < x.begun[2].out.Step:
			holdsEntries(t, x.entries(), 1, mine, other)
		default:
			holdsEntries(t, x.entries(), 1, other, mine)
		}
		x.verify()
	}
	if aborted == 0 {
		t.Error("none was aborted")
	}
}

// Entries stand in the order, not as transactions end.
func TestEntriesStandInTheOrder(t *testing.T) {
	turned := 0
	for ahead := range 60 {
		x := newScript(t, 2, numbers("t", false))
		var many []api.Op
		for n := range int64(4) {
			many = append(many, put("t", num(10+n), num(n)))
		}
		a := x.begin(0, many...)
		x.steps(0, ahead)
		over := a.over
		b := x.begin(1, put("t", num(1), num(1)))
		x.run(1)
		x.turns()
		list := x.entries()
		if len(list) != 2 {
			t.Fatal(list)
		}
		if first := len(list[0].Writes) == 4; first != (a.out.Step < b.out.Step) {
			t.Errorf("behind %d steps: %s", ahead, brief(list))
		}
		if !over && a.out.Step < b.out.Step {
			turned++
		}
		x.verify()
	}
	if turned == 0 {
		t.Error("none ended behind one that stands behind it")
	}
}

func TestTidsRise(t *testing.T) {
	x := newScript(t, 3, numbers("t", false), numbers("s", false))
	last := uint64(0)
	next := func(w int, ops ...api.Op) {
		t.Helper()
		x.done(w, ops...)
		list := x.entries()
		if len(list) != 1 || list[0].Tid <= last {
			t.Fatalf("%s behind %d", brief(list), last)
		}
		last = list[0].Tid
	}
	// The same key, by many workers; put in, taken away, put in again.
	for range 5 {
		for w := range 3 {
			next(w, put("t", num(1), num(int64(w))))
			next((w+1)%3, del("t", num(1)))
			next((w+2)%3, insert("t", num(1), num(7)), add("t", 1, 1, num(1)))
		}
	}
	// The same worker, other keys.
	next(2, put("t", num(1), num(1)))
	for n := range int64(5) {
		next(2, put("s", num(n), num(n)))
	}
	// A row that was there for a moment alone was written, too.
	next(2, put("t", num(9), num(9)), del("t", num(9)))
	next(1, insert("t", num(9), num(9)))
	// A table is dropped, and created again: the same key is written by one that wrote little.
	for range 3 {
		x.drop("t")
		x.create(numbers("t", true))
		next(0, put("t", num(9), num(0)))
		next(1, put("t", num(9), num(0)))
		next(1, put("t", num(9), num(0)))
	}
	x.s.Advance()
	next(0, put("t", num(9), num(0)))
	x.verify()
}

// Entries alone, one after the other by Tids, come to the rows of the store.
func TestEntriesComeToTheRows(t *testing.T) {
	for seed := range int64(20) {
		tables := []api.Table{numbers("t", true), wide()}
		r := drawnOf(seed, 4, 4, 7)
		x := newScript(t, 5, tables...)
		x.play(r, tables, 900, 4)
		x.verify()
		rows := map[string]api.Write{}
		tids := map[string]uint64{}
		for _, list := range x.told {
			for _, entry := range list {
				for _, w := range entry.Writes {
					if k := w.Table + " " + w.Key; entry.Tid > tids[k] {
						rows[k], tids[k] = w, entry.Tid
					}
				}
			}
		}
		plain := []api.Table{{Name: "t", Columns: numbers("t", true).Columns, Key: 1}, {Name: "w", Columns: wide().Columns, Key: 2}}
		d := table.New()
		for _, y := range plain {
			d.Create(y)
		}
		for _, w := range rows {
			if !w.Gone {
				d.Apply([]api.Op{put(w.Table, w.Row...)})
			}
		}
		now, _ := x.s.AsOf(x.s.Epoch())
		for _, y := range plain {
			a, _ := d.Rows(y.Name)
			b, _ := now.Rows(y.Name)
			if !sameRows(a, b) {
				t.Fatalf("%s: %s, not %s", y.Name, brief(a), brief(b))
			}
		}
	}
}
