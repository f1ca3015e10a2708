package recover_test

import (
	"fmt"
	"math/rand"
	"testing"

	"hopper/api"
	"hopper/ckpt"
	"hopper/disk"
	"hopper/occ"
	back "hopper/recover"
	"hopper/wal"
)

// What layer 16 has committed comes back as layer 16 tells it: its entries are what redo is for.

// run lets both workers take steps, as they are drawn, until nobody works.
func run(t *testing.T, r *rand.Rand, s *occ.Store) {
	t.Helper()
	for s.Working() > 0 {
		if _, _, e := s.Step(r.Intn(2)); e != api.OK && e != api.ErrWorker {
			t.Fatal(e)
		}
	}
}

// swaps draws operations on two tables with few keys, and fewer values of unique indexes: rows often take another one's.
func swaps(r *rand.Rand) (ops []api.Op) {
	for range 1 + r.Intn(4) {
		k := num(int64(r.Intn(6)))
		switch r.Intn(4) {
		case 0:
			ops = append(ops, api.Op{Kind: api.ODelete, Table: "e", Key: row{k}})
		case 1:
			ops = append(ops, api.Op{Kind: api.ODelete, Table: "s", Key: row{k}})
		case 2:
			ops = append(ops, api.Op{Kind: api.OPut, Table: "e", Row: row{k, txt(string(rune('a' + r.Intn(7))))}})
		default:
			ops = append(ops, api.Op{Kind: api.OPut, Table: "s", Row: row{k, num(int64(r.Intn(7))), txt(string(rune('a' + r.Intn(7))))}})
		}
	}
	return ops
}

// logAll adds entries to that worker of the log that can take each, since the store does not tell by whom they are.
func logAll(t *testing.T, l *wal.Log, list []api.Entry) {
	t.Helper()
	for _, x := range list {
		e := api.ErrOlder
		for w := 0; w < api.MaxWorkers && e == api.ErrOlder; w++ {
			e = l.Add(w, x)
		}
		is(t, "Add", e, api.OK)
	}
	for w := range api.MaxWorkers {
		is(t, "Flush", l.Flush(w), api.OK)
	}
}

func TestWhatAStoreHasCommitted(t *testing.T) {
	t.Parallel()
	committed, onTheWay := 0, 0
	for seed := range int64(60) {
		r := rand.New(rand.NewSource(seed))
		s, _ := occ.New(2)
		is(t, "Create", s.Create(example("e", true)), api.OK)
		is(t, "Create", s.Create(several("s")), api.OK)
		base, e := s.AsOf(1)
		is(t, "AsOf", e, api.OK)
		d := disk.New()
		_, e = ckpt.Write(d, base, 0)
		is(t, "Write", e, api.OK)
		_, l, epoch, e := back.Start(d, api.MaxWorkers)
		if e != api.OK || epoch != 0 {
			t.Fatal(epoch, e)
		}
		for range 8 {
			for range 6 {
				s.Begin(0, swaps(r))
				s.Begin(1, swaps(r))
				run(t, r, s)
			}
			epoch := s.Epoch()
			list := s.Entries()
			committed += len(list)
			logAll(t, l, list)
			is(t, "Mark", l.Mark(epoch), api.OK)
			past, e := s.AsOf(epoch)
			is(t, "AsOf", e, api.OK)
			got := readOf(t, d)
			if want := (told{stateOf(t, past), epoch, api.OK}); got != want {
				t.Fatalf("of the epoch %d: %s, not %s", epoch, brief(got), brief(want))
			}
			if clashesOnTheWay(t, d) {
				onTheWay++
			}
			// The store goes on; behind it a crash, and another log.
			if r.Intn(3) == 0 {
				d.Crash(nil)
				begun, again := started(t, fmt.Sprint(seed), d, api.MaxWorkers)
				if begun != got {
					t.Fatalf("Start: %s, not %s", brief(begun), brief(got))
				}
				l = again
			}
			s.Advance()
			s.Advance()
		}
	}
	if committed < 2000 || onTheWay < 50 {
		t.Error("hardly anything happens:", committed, onTheWay)
	}
}

// clashesOnTheWay tells whether some rows clash, if a disk's writes are done one by one.
func clashesOnTheWay(t *testing.T, d *disk.Disk) bool {
	t.Helper()
	tables, _, _ := modelCheckpoint(filesOf(d))
	entries, _, _ := modelLoad(filesOf(d))
	for _, x := range entries {
		for _, w := range x.Writes {
			if !modelWrite(tables, w) {
				t.Fatal("a write does not fit:", brief(w))
			}
			for _, y := range tables {
				if !y.sound() {
					return true
				}
			}
		}
	}
	return false
}
