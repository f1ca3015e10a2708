package server_test

import (
	"fmt"
	"math"
	"strings"
	"testing"

	"hopper/api"
	"hopper/auth"
	"hopper/ckpt"
	"hopper/disk"
	"hopper/server"
	"hopper/table"
	"hopper/wal"
)

// 27.1: New, and what a server tells at first.

func laid(files map[string]string) *disk.Disk {
	d := disk.New()
	for name, b := range files {
		d.Append(name, b)
		d.Sync(name)
	}
	return d
}

// rotten has a log that is none.
func rotten() *disk.Disk { return laid(map[string]string{"log.0.0": "rotten, and long enough"}) }

func down() *disk.Disk {
	d := disk.New()
	d.Fuse(0)
	d.Append("x", "x")
	return d
}

func refusesNew(t *testing.T, what string, d *disk.Disk, k *auth.Keys, workers, room int, want api.Errno) {
	t.Helper()
	before := ""
	if d != nil {
		before = fmt.Sprint(filesOf(d))
	}
	for range 2 {
		s, e := server.New(d, k, workers, room, theDraw)
		if s != nil || e != want {
			t.Errorf("%s: %v, %d, not %d", what, s, e, want)
		}
	}
	if d != nil && fmt.Sprint(filesOf(d)) != before {
		t.Errorf("%s: files have changed", what)
	}
}

func TestNewRefuses(t *testing.T) {
	d, k := disk.New(), theKeys()
	for _, n := range []int{0, -1, api.MaxWorkers + 1, math.MinInt, math.MaxInt} {
		refusesNew(t, "workers", d, k, n, 1, api.ErrRange)
		refusesNew(t, "workers, on a rotten disk", rotten(), k, n, 1, api.ErrRange)
		refusesNew(t, "no disk, workers", nil, k, n, -1, api.ErrNone)
		refusesNew(t, "no keys, workers", d, nil, n, 1, api.ErrNone)
	}
	for _, n := range []int{-1, api.MaxItems + 1, math.MinInt, math.MaxInt} {
		refusesNew(t, "room", d, k, 1, n, api.ErrRange)
		refusesNew(t, "room, on a rotten disk", rotten(), k, 1, n, api.ErrRange)
		refusesNew(t, "room, on a disk that is down", down(), k, 1, n, api.ErrRange)
		refusesNew(t, "no disk, room", nil, k, 1, n, api.ErrNone)
		refusesNew(t, "no keys, room", d, nil, 1, n, api.ErrNone)
	}
	refusesNew(t, "no disk", nil, k, 1, 1, api.ErrNone)
	refusesNew(t, "no keys", d, nil, 1, 1, api.ErrNone)
	refusesNew(t, "neither", nil, nil, 1, 1, api.ErrNone)
	refusesNew(t, "no keys, on a rotten disk", rotten(), nil, 1, 1, api.ErrNone)
	refusesNew(t, "no keys, on a disk that is down", down(), nil, 1, 1, api.ErrNone)
}

// writesNowhere has a checkpoint, and a log that writes into a table that is not there.
func writesNowhere(t *testing.T) *disk.Disk {
	d := saved(t, table.New(), 1)
	l, _ := wal.Open(d, 1)
	l.Add(0, api.Entry{Tid: 5 << 23, Writes: []api.Write{{Table: "t", Key: "k", Gone: true}}})
	l.Flush(0)
	l.Mark(5)
	return d
}

func TestNewRefusesDisks(t *testing.T) {
	full := disk.New()
	for n := range api.MaxFiles {
		full.Append(fmt.Sprint("other", n), "x")
	}
	manifest := filesOf(saved(t, dataOf(plain("t"), 1, 2), 5))
	manifest["manifest"] += "x"
	lost := filesOf(saved(t, dataOf(plain("t"), 1, 2), 5))
	delete(lost, "ckpt.0.0")
	for what, x := range map[string]struct {
		d    *disk.Disk
		want api.Errno
	}{
		"a rotten log":             {rotten(), api.ErrCorrupt},
		"rotten marks":             {laid(map[string]string{"epoch": "rotten, and long enough"}), api.ErrCorrupt},
		"a rotten manifest":        {laid(manifest), api.ErrCorrupt},
		"a part that is not there": {laid(lost), api.ErrCorrupt},
		"a write that doesn't fit": {writesNowhere(t), api.ErrCorrupt},
		"down":                     {down(), api.ErrDown},
		"no room for a file":       {full, api.ErrLong},
	} {
		refusesNew(t, what, x.d, theKeys(), 1, 1, x.want)
		refusesNew(t, what, x.d, auth.New(), api.MaxWorkers, api.MaxItems, x.want)
	}
}

func TestNewTakesAllThatMayBe(t *testing.T) {
	for _, workers := range []int{1, 2, api.MaxWorkers - 1, api.MaxWorkers} {
		for _, room := range []int{0, 1, api.MaxItems - 1, api.MaxItems} {
			x := opens(t, disk.New(), workers, room)
			x.holds()
			if list := x.s.Ended(); len(list) > 0 {
				t.Error(list)
			}
			if _, e := x.s.Recv(0); e != api.ErrNone {
				t.Error("there is a connection")
			}
			x.work(workers - 1)
			if e := x.s.Work(workers); e != api.ErrWorker {
				t.Error(workers, e)
			}
			x.state()
		}
	}
}

// Foreign files are nobody's.
func TestNewLeavesForeignFiles(t *testing.T) {
	files := map[string]string{"log.x.0": "x", "other": "y", "ckpt.1": "z", "log.0": "", "epoch.0": "x"}
	d := laid(files)
	for range 3 {
		x := opens(t, d, 2, 4)
		c := x.letIn()
		x.did(c, create(1, plain("t")))
		x.does(c, batch(2, put("t", num(1), num(2))))
		x.ends()
		for name, b := range files {
			if got := filesOf(d)[name]; got != b {
				t.Errorf("%s: %q", name, got)
			}
		}
	}
}

// allSorts has tables without rows, with columns of all kinds, with indexes, with as many rows as there may be.
func allSorts(t *testing.T) *table.Data {
	d := table.New()
	for _, y := range []api.Table{plain("many"), plain("none"), indexed("unique"), {
		Name: "kinds",
		Columns: []api.Column{
			{Name: "b", Kind: api.VBool}, {Name: "i", Kind: api.VInt}, {Name: "f", Kind: api.VFloat}, {Name: "p", Kind: api.VPair}, {Name: "t", Kind: api.VText},
		},
		Key:     3,
		Indexes: []api.Index{{Name: "x", Columns: []int{4, 0}}, {Name: "y", Columns: []int{3}, Unique: true}},
	}} {
		if e := d.Create(y); e != api.OK {
			t.Fatal(e)
		}
	}
	var ops []api.Op
	for n := range int64(api.MaxItems) {
		ops = append(ops, put("many", num(n-50), num(n*n)))
	}
	d.Apply(ops)
	kind := func(yes int64, n int64, f float64, p complex128, s string) api.Op {
		return put("kinds", api.Value{Kind: api.VBool, N: yes}, num(n), api.Value{Kind: api.VFloat, C: complex(f, 0)}, api.Value{Kind: api.VPair, C: p}, txt(s))
	}
	_, done, _ := d.Apply([]api.Op{
		put("unique", num(1), txt("x")), put("unique", num(2), null()), put("unique", num(3), null()), put("unique", num(4), txt("")),
		kind(0, 1, -1.5, 1i, "\x00\xff"), kind(1, math.MinInt64, math.Inf(1), complex(math.Copysign(0, -1), 0), strings.Repeat("m", api.MaxText)), kind(0, 1, math.Copysign(0, -1), 0, ""),
	})
	if !done {
		t.Fatal("a row may not be")
	}
	return d
}

func TestNewHasWhatTheDiskHolds(t *testing.T) {
	data := allSorts(t)
	for _, epoch := range []int{0, 1, 2, 3, 77, 1 << 20} {
		x := opens(t, saved(t, data, epoch), 3, 4)
		if x.first != epoch || x.s.Epoch() != epoch+2 || x.s.Durable() != epoch {
			t.Fatal(epoch, x.first)
		}
		x.holds()
		c := x.letIn()
		done := x.does(c, query(1, scan("many"), find("unique", "i", txt("x")), find("kinds", "x", txt(""), api.Value{Kind: api.VBool})))
		if done.Out.Epoch != epoch || done.Out.Step != 0 || len(done.Out.Results[0].Rows) != api.MaxItems || len(done.Out.Results[1].Rows) != 1 || len(done.Out.Results[2].Rows) != 1 {
			t.Error(epoch, done.Out.Epoch)
		}
		// What is there is there for transactions, too: by its keys, and by its indexes.
		done = x.did(c, batch(2, insert("unique", num(1), txt("z"))))
		if done.Out.Committed || done.Out.Results[0].Code != api.ErrThere || done.Out.Epoch != epoch+2 {
			t.Error(lookOfDone(done))
		}
		done = x.did(c, batch(3, put("unique", num(9), txt("x"))))
		if done.Out.Committed || done.Out.Results[0].Code != api.ErrUnique {
			t.Error(lookOfDone(done))
		}
		x.does(c, batch(4, del("unique", num(1)), put("unique", num(9), txt("x")), add("many", 1, 1, num(4))))
		x.ends()
		x.holds()
	}
}

// A server that goes on behind others has what they left: tables, rows, without those that are gone.
func TestNewBehindOthers(t *testing.T) {
	d := disk.New()
	x := opens(t, d, 2, 9)
	c := x.letIn()
	x.asks(c, create(1, plain("a")), create(2, plain("b")), create(3, indexed("u")), batch(4, put("a", num(1), num(1)), put("b", num(1), num(1)), put("u", num(1), txt("x"))))
	x.ends()
	x.asks(c, drop(5, "a"), batch(6, put("b", num(2), num(2)), del("u", num(1)), put("u", num(2), txt("x"))))
	x.ends()
	// The last epoch lasts by the logs alone.
	x.asks(c, batch(7, put("b", num(3), num(3)), add("b", 1, 5, num(1))))
	x.ends()
	x.asks(c, batch(8, put("b", num(4), num(4))))
	x.run()
	x.holds()
	want := dataOf(plain("b"), 1, 6, 2, 2, 3, 3)
	want.Create(indexed("u"))
	want.Apply([]api.Op{put("u", num(2), txt("x"))})
	y := x.crashes(1, 0)
	if lookOf(y.base) != lookOf(want) || y.first != 4 || y.epoch != 6 {
		t.Error(y.first, lookOf(y.base))
	}
	y.holds()
	// Without anything that was done it begins with the same, again and again.
	for range 3 {
		y = y.crashes(3, 4, 5, 6)
		if lookOf(y.base) != lookOf(want) || y.first != 4 {
			t.Error(y.first, lookOf(y.base))
		}
	}
}

// The checkpoint's epoch may be above the durable one, or below it.
func TestNewTakesTheGreaterEpoch(t *testing.T) {
	d := saved(t, dataOf(plain("t"), 1, 1), 4)
	l, _ := wal.Open(d, 1)
	l.Mark(9)
	if x := opens(t, d, 1, 1); x.first != 9 {
		t.Error(x.first)
	}
	ckpt.Write(d, dataOf(plain("t"), 1, 2), 12)
	x := opens(t, d, 1, 1)
	if x.first != 12 {
		t.Error(x.first)
	}
	x.advance()
	x.flush()
	if x.durable != 14 {
		t.Error(x.durable)
	}
}

// As far as epochs go: what can be written lasts, and nothing is told of others.
func TestNewAtTheLastEpochs(t *testing.T) {
	for back := range 6 {
		x := opens(t, saved(t, dataOf(plain("t"), 1, 1), api.MaxEpoch-back), 2, 4)
		c := x.letIn()
		for n := range 4 {
			x.does(c, query(10*n, get("t", num(1))))
			x.does(c, batch(10*n+1, add("t", 1, 1, num(1))))
			x.flush()
			x.takes(c)
			x.advance()
		}
		x.flush()
		x.takes(c)
		x.holds()
		y := x.crashes(2, 4, 3)
		if y.first != x.durable || x.durable > api.MaxEpoch {
			t.Error(back, y.first, x.durable)
		}
	}
}

// Rows that no store has room for, by chapter 16's bounds.
func TestNewRefusesWhatNoStoreHolds(t *testing.T) {
	data := table.New()
	data.Create(api.Table{Name: "t", Columns: []api.Column{{Name: "a", Kind: api.VText}, {Name: "b", Kind: api.VText}}, Key: 1})
	data.Apply([]api.Op{put("t", txt(strings.Repeat("a", api.MaxText)), null())})
	d := saved(t, data, 5)
	for range 2 {
		if s, e := server.New(d, theKeys(), 1, 1, 0); s != nil || e != api.ErrLong {
			t.Error(s, e)
		}
	}
}
