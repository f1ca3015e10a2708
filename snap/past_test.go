package snap_test

import (
	"testing"

	"hopper/api"
)

// 17.2: which tables and rows are told: those of the snapshot epoch, whatever has been since.

// Rows that were put in, changed and taken away in epochs up to the snapshot epoch, and behind it.
func TestRowsOfTheSnapshotEpoch(t *testing.T) {
	x := newScript(t, 2, numbers("t", true))
	r := x.reader()
	// What the epochs 1, 2, .. come to.
	epochs := []struct {
		ops  []api.Op
		want []row
	}{
		{[]api.Op{put("t", num(1), num(1)), put("t", num(2), num(2))}, []row{{num(1), num(1)}, {num(2), num(2)}}},
		{[]api.Op{add("t", 1, 9, num(1)), insert("t", num(3), num(1))}, []row{{num(1), num(10)}, {num(2), num(2)}, {num(3), num(1)}}},
		{[]api.Op{del("t", num(2))}, []row{{num(1), num(10)}, {num(3), num(1)}}},
		{nil, []row{{num(1), num(10)}, {num(3), num(1)}}},
		{[]api.Op{put("t", num(2), num(3)), del("t", num(1)), put("t", num(3), null())}, []row{{num(2), num(3)}, {num(3), null()}}},
		{[]api.Op{del("t", num(2)), del("t", num(3))}, nil},
		{[]api.Op{put("t", num(2), num(2)), del("t", num(2))}, nil},
		{[]api.Op{put("t", num(1), num(10))}, []row{{num(1), num(10)}}},
		{nil, []row{{num(1), num(10)}}},
		{nil, []row{{num(1), num(10)}}},
	}
	for at, y := range epochs {
		holds := func() {
			t.Helper()
			if at < 2 {
				x.seesNone(r, "t")
				return
			}
			// The epoch is at + 1, and the snapshot epoch two below it.
			x.sees(r, "t", epochs[at-2].want...)
			for n := range int64(12) {
				x.ask(r, find("t", "i", num(n)), get("t", num(n)), scanFrom("t", row{num(n)}, nil, 2), find("t", "i", null()))
			}
		}
		holds()
		for _, op := range y.ops {
			x.done(at%2, op)
			holds()
		}
		x.advance(1)
	}
	x.verify()
}

// All that one epoch wrote to a row, one transaction behind the other, is told as it was at last.
func TestTheLastOfAnEpochIsTold(t *testing.T) {
	x := newScript(t, 1, numbers("t", false))
	r := x.reader()
	for epoch := int64(1); epoch < 6; epoch++ {
		for n := range int64(5) {
			x.done(0, put("t", num(1), num(10*epoch+n)))
		}
		x.advance(1)
		if epoch > 1 {
			x.sees(r, "t", row{num(1), num(10*(epoch-1) + 4)})
		}
	}
	x.verify()
}

// What was refused, or aborted, is never told.
func TestOnlyWhatIsCommittedIsTold(t *testing.T) {
	x := newScript(t, 2, numbers("t", true))
	r := x.reader()
	x.done(0, put("t", num(1), num(1)))
	x.begin(0, put("t", num(2), num(2)), add("t", 1, 5, num(1)), put("t", num(3), num(2)))
	if o := x.run(0); o.Committed || o.Step == 0 {
		t.Fatal("it was not refused")
	}
	// The other one comes between.
	x.begin(1, get("t", num(1)), put("t", num(4), num(4)), add("t", 1, 7, num(1)))
	for range 4 {
		x.step(1)
	}
	x.done(0, add("t", 1, 1, num(1)))
	if o := x.run(1); o.Committed || o.Step != 0 {
		t.Fatal("it was not aborted")
	}
	x.advance(2)
	x.sees(r, "t", row{num(1), num(2)})
	x.verify()
}

// Tables that were created, dropped, and created again, ahead of the snapshot epoch, in it and behind it.
func TestTablesOfTheSnapshotEpoch(t *testing.T) {
	x := newScript(t, 1)
	r := x.reader()
	text, whole := row{num(1), txt("x")}, row{num(2), num(2)}
	deeds := []struct {
		do   func() // in the epochs 1, 2, ..
		want []row  // what t has then
		none bool   // there is none
	}{
		{do: func() {}, none: true},
		{do: func() { x.create(example()) }},
		{do: func() { x.done(0, put("t", text...)) }, want: []row{text}},
		{do: func() { x.drop("t") }, none: true},
		{do: func() { x.create(numbers("t", true)); x.done(0, put("t", whole...)) }, want: []row{whole}},
		{do: func() { x.drop("t"); x.create(example()) }},
		{do: func() { x.done(0, put("t", text...)); x.drop("t") }, none: true},
		{do: func() { x.create(example()); x.drop("t") }, none: true},
		{do: func() { x.create(numbers("t", false)); x.drop("t"); x.create(example()); x.done(0, put("t", text...)) }, want: []row{text}},
		{do: func() { x.drop("t"); x.create(numbers("t", false)); x.done(0, put("t", whole...)) }, want: []row{whole}},
		{do: func() {}, want: []row{whole}},
		{do: func() { x.drop("t") }, none: true},
		{do: func() {}, none: true},
		{do: func() {}, none: true},
	}
	for at, y := range deeds {
		holds := func() {
			t.Helper()
			if at < 2 || deeds[at-2].none {
				x.seesNone(r, "t")
				return
			}
			x.sees(r, "t", deeds[at-2].want...)
			// Keys fit the schema that the table had then.
			x.ask(r, find("t", "i", num(2)))
			x.ask(r, find("t", "i", txt("x")))
			x.ask(r, get("t", num(1)), get("t", num(2)))
		}
		holds()
		y.do()
		holds()
		x.advance(1)
		x.seesNone(r, "u")
	}
	x.verify()
}

// An index is that of the schema of the snapshot epoch.
func TestIndexesOfTheSnapshotEpoch(t *testing.T) {
	x := newScript(t, 1, numbers("t", false))
	r := x.reader()
	x.done(0, put("t", num(1), num(5)), put("t", num(2), num(5)))
	x.advance(1)
	x.drop("t")
	other := numbers("t", true)
	other.Indexes[0].Name = "k"
	x.create(other)
	x.done(0, put("t", num(3), num(5)))
	code := func(index string, want api.Errno, rows int) {
		t.Helper()
		results, done := x.ask(r, find("t", index, num(5)))
		if len(results) != 1 || results[0].Code != want || done != (want == api.OK) || len(results[0].Rows) != rows {
			t.Errorf("%s at the epoch %d: %s", index, r.Last(), brief(answer(results, done)))
		}
	}
	x.advance(1)
	code("i", api.OK, 2)
	code("k", api.ErrNone, 0)
	x.advance(1)
	code("i", api.ErrNone, 0)
	code("k", api.OK, 1)
	x.verify()
}

// The epoch has risen as far as it may with somebody at work: what that one writes is behind the snapshot epoch.
func TestSomebodyIsAnEpochBehind(t *testing.T) {
	x := newScript(t, 2, numbers("t", false))
	r := x.reader()
	x.done(0, put("t", num(1), num(1)))
	x.advance(1)
	x.done(0, put("t", num(1), num(2)))
	x.begin(1, put("t", num(1), num(3)), put("t", num(2), num(3)))
	x.advance(1)
	if x.s.Advance() {
		t.Fatal("it has risen above a worker's epoch by more than one")
	}
	for done := false; !done; done, _ = x.step(1) {
		x.sees(r, "t", row{num(1), num(1)})
	}
	x.sees(r, "t", row{num(1), num(1)})
	x.advance(1)
	x.sees(r, "t", row{num(1), num(2)})
	x.advance(1)
	x.sees(r, "t", row{num(1), num(3)}, row{num(2), num(3)})
	x.verify()
}
