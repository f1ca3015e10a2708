package server_test

import (
	"fmt"
	"strings"
	"testing"

	"hopper/api"
	"hopper/ckpt"
	"hopper/disk"
	"hopper/wal"
)

// 27.4: Flush.

// refusesFlush looks whether nothing becomes durable, as far as replies go.
func (x *served) refusesFlush(want api.Errno) {
	x.Helper()
	if e := x.s.Flush(); e != want {
		x.Fatalf("flush: %d, not %d", e, want)
	}
	x.state()
}

// leavesFiles looks whether a flush changes nothing on the disk.
func (x *served) leavesFiles() {
	x.Helper()
	before := fmt.Sprint(filesOf(x.d))
	x.flush()
	if fmt.Sprint(filesOf(x.d)) != before {
		x.Fatal("files have changed")
	}
}

func TestFlushOfNothing(t *testing.T) {
	for _, epoch := range []int{0, 1, 7} {
		x := opens(t, saved(t, dataOf(plain("t"), 1, 1), epoch), 2, 4)
		for n := range 5 {
			x.flush()
			if x.s.Durable() != epoch+1+n {
				t.Error(epoch, n, x.s.Durable())
			}
			x.leavesFiles()
			x.leavesFiles()
			x.advance()
		}
		// The epoch may have risen by more than one.
		x.advance()
		x.advance()
		x.flush()
		if x.s.Durable() != epoch+8 {
			t.Error(epoch, x.s.Durable())
		}
		x.crashes(2, 4)
	}
}

func TestFlushWithSomebodyAtATransaction(t *testing.T) {
	x := opens(t, saved(t, dataOf(plain("t"), 1, 1, 2, 2), 7), 2, 4)
	c := x.letIn()
	x.asks(c, batch(1, add("t", 1, 1, num(1))), batch(2, add("t", 1, 1, num(2))))
	x.toil(0)
	x.leavesFiles()
	x.advance()
	x.flush()
	if x.s.Durable() != 8 {
		t.Error(x.s.Durable())
	}
	// The other one begins at 10, comes to its end and is written; the epoch 9 lasts when the first one has ended.
	for x.toil(1); x.at[1] != nil; {
		x.work(1)
	}
	x.flush()
	if x.s.Durable() != 8 || len(x.out[c]) != 0 {
		t.Error(x.s.Durable())
	}
	for x.at[0] != nil {
		x.work(0)
	}
	x.flush()
	if x.s.Durable() != 9 {
		t.Error(x.s.Durable())
	}
	x.advance()
	x.flush()
	x.takes(c)
	x.holds()
	x.crashes(1, 1)
}

// What was committed is written, and synced, also if nothing becomes durable.
func TestFlushWritesLogs(t *testing.T) {
	x := opens(t, saved(t, dataOf(plain("t"), 1, 1, 2, 2), 7), 3, 4)
	c := x.letIn()
	x.flush()
	x.asks(c, batch(1, add("t", 1, 1, num(1))))
	for x.toil(1); x.at[1] != nil; {
		x.work(1)
	}
	if len(filesOf(x.d)["log.1.0"]) != 0 {
		t.Error("nothing was to be written yet")
	}
	x.flush()
	before := filesOf(x.d)["log.1.0"]
	if before == "" || x.s.Durable() != 8 {
		t.Error(x.s.Durable())
	}
	x.asks(c, batch(2, add("t", 1, 1, num(2))), batch(3, add("t", 1, 1, num(1))), batch(4, put("t", nums(3, 3)...)))
	x.toil(2)
	x.asks(c, batch(5, get("t", num(1))))
	for x.toil(1); x.at[1] != nil; {
		x.work(1)
	}
	x.flush()
	after := filesOf(x.d)["log.1.0"]
	if !strings.HasPrefix(after, before) || len(after) <= len(before) || len(filesOf(x.d)["log.2.0"]) != 0 {
		t.Error("the worker's own, behind the other one, and nothing of what goes on")
	}
	x.run()
	x.advance()
	x.flush()
	d := copied(x.d)
	d.Crash(nil)
	entries, durable, e := wal.Load(d)
	if e != api.OK || durable != 9 || len(entries) != 4 {
		t.Error(entries, durable, e)
	}
	for _, y := range entries {
		if y.Tid>>23 != 9 || len(y.Writes) != 1 || y.Writes[0].Table != "t" {
			t.Error(y)
		}
	}
	x.holds()
	x.crashes(1, 1)
}

// savedNow is what the checkpoint on a disk tells.
func (x *served) savedNow(epoch int) {
	x.Helper()
	d, at, e := ckpt.Read(x.d)
	if e != api.OK || at != epoch || lookOf(d) != lookOf(x.past().asOf(epoch)) {
		x.Fatalf("the checkpoint is of %d, %d, %s; not of %d, %s", at, e, lookOf(d), epoch, lookOf(x.past().asOf(epoch)))
	}
}

// A checkpoint has what was there as of the epoch that becomes durable, not what has come since.
func TestFlushOfTables(t *testing.T) {
	x := opens(t, disk.New(), 2, 9)
	c := x.letIn()
	x.asks(c, create(1, plain("t")), batch(2, put("t", nums(1, 1)...)))
	x.run()
	x.flush()
	x.savedNow(0)
	x.advance()
	x.asks(c, batch(3, put("t", nums(2, 2)...)))
	x.run()
	x.flush()
	x.savedNow(2)
	if x.s.Durable() != 2 {
		t.Error(x.s.Durable())
	}
	x.leavesFiles()
	// What comes by transactions alone needs none.
	x.advance()
	x.flush()
	x.savedNow(2)
	x.does(c, create(4, plain("u")))
	x.advance()
	x.does(c, drop(5, "t"))
	x.does(c, create(6, indexed("t")))
	x.flush()
	x.savedNow(4)
	x.advance()
	x.does(c, batch(7, put("u", nums(1, 1)...), put("t", num(1), txt("x"))))
	x.flush()
	x.savedNow(5)
	x.advance()
	x.flush()
	x.savedNow(5)
	x.does(c, drop(8, "u"))
	x.advance()
	x.advance()
	x.flush()
	x.savedNow(8)
	x.takes(c)
	x.holds()
	x.crashes(1, 1)
}

// What was refused, and what calls and transactions do, needs no checkpoint.
func TestFlushWithoutACheckpoint(t *testing.T) {
	x := opens(t, books(t, 7), 2, 9)
	c := x.letIn()
	manifest := filesOf(x.d)["manifest"]
	for n := range 6 {
		x.did(c, create(1, plain("house")))
		x.did(c, drop(2, "t"))
		x.does(c, call(3, "new", 1, 1, 1, 2, 1, 3))
		x.did(c, call(4, "nothing"))
		x.does(c, batch(5, put("item", nums(int64(n+10), 5)...)))
		x.ends()
	}
	if filesOf(x.d)["manifest"] != manifest {
		t.Error("a checkpoint was written")
	}
	x.holds()
	x.takes(c)
	x.crashes(1, 1)
}

func TestFlushOfTablesWithSomebodyAtATransaction(t *testing.T) {
	x := opens(t, saved(t, dataOf(plain("t"), 1, 1, 2, 2), 7), 2, 9)
	c := x.letIn()
	x.advance()
	x.does(c, create(1, plain("u")))
	x.asks(c, batch(2, add("t", 1, 1, num(1))))
	x.toil(0)
	// What becomes durable is below the table: it needs no checkpoint.
	x.flush()
	if x.s.Durable() != 8 {
		t.Error(x.s.Durable())
	}
	x.advance()
	x.flush()
	if x.s.Durable() != 9 {
		t.Error(x.s.Durable())
	}
	for x.at[0] != nil {
		x.work(0)
	}
	x.asks(c, batch(3, add("t", 1, 1, num(1))))
	x.toil(1)
	x.advance()
	// Now it is not, and somebody is at a transaction: only the logs are written.
	if x.becomes() != 9 || filesOf(x.d)["log.0.0"] != "" {
		t.Error(x.becomes())
	}
	x.flush()
	if x.s.Durable() != 9 || filesOf(x.d)["log.0.0"] == "" || x.out[c] != "" {
		t.Error(x.s.Durable())
	}
	x.leavesFiles()
	for x.at[1] != nil {
		x.work(1)
	}
	x.flush()
	if x.s.Durable() != 11 {
		t.Error(x.s.Durable())
	}
	x.savedNow(11)
	x.takes(c)
	x.holds()
	x.crashes(1, 1)
}

// big has some bytes of text.
func big(id, n int) api.Request {
	return batch(id, put("big", num(int64(id)), txt(strings.Repeat("b", n))))
}

func bigTable() api.Table {
	return api.Table{Name: "big", Columns: []api.Column{{Name: "a", Kind: api.VInt}, {Name: "b", Kind: api.VText}}, Key: 1}
}

// A log's file has no room for all: nothing becomes durable any more, until another server begins.
func TestFlushWithAFullLog(t *testing.T) {
	x := opens(t, saved(t, dataOf(bigTable()), 7), 1, 100)
	c := x.letIn()
	for n := range 63 {
		x.does(c, big(n, 4000))
		x.advance()
		x.flush()
	}
	x.takes(c)
	for n := range 5 {
		x.does(c, big(100+n, 4000))
	}
	x.advance()
	x.refusesFlush(api.ErrLong)
	x.refusesFlush(api.ErrLong)
	x.gets(c)
	x.does(c, query(200, get("big", num(62))))
	x.advance()
	x.refusesFlush(api.ErrLong)
	x.holds()
	y := x.crashes(1, 4)
	if y.first != x.durable {
		t.Error(y.first, x.durable)
	}
	c = y.letIn()
	y.does(c, big(300, 4000))
	y.ends()
	y.takes(c)
	y.crashes(1, 4)
}

// A file of durable epochs that is full, too.
func TestFlushWithAFullFileOfEpochs(t *testing.T) {
	x := opens(t, saved(t, dataOf(plain("t")), 7), 1, 4)
	n := 0
	for ; len(filesOf(x.d)["epoch"])+len(filesOf(x.d)["epoch"])/(n+1) < api.MaxBytes; n++ {
		x.s.Advance()
		if e := x.s.Flush(); e != api.OK {
			t.Fatal(n, e)
		}
	}
	x.epoch, x.durable = x.s.Epoch(), x.s.Durable()
	if x.epoch != x.durable+1 || x.epoch < 5000 {
		t.Fatal(x.epoch, x.durable)
	}
	full := len(filesOf(x.d)["epoch"])
	c := x.letIn()
	for x.advance() && x.s.Flush() == api.OK {
		x.becameDurable(x.epoch - 1)
	}
	x.does(c, batch(1, put("t", nums(1, 1)...)))
	x.advance()
	x.refusesFlush(api.ErrLong)
	x.refusesFlush(api.ErrLong)
	x.gets(c)
	if len(filesOf(x.d)["epoch"]) < full {
		t.Error("marks are gone")
	}
	y := x.crashes(1, 4)
	if y.first != x.durable {
		t.Error(y.first)
	}
	y.advance()
	y.flush()
}

// fills leaves so many files that there may be more.
func fills(d *disk.Disk, left int) {
	for n := 0; len(d.Names()) < api.MaxFiles-left; n++ {
		d.Append(fmt.Sprint("other", n), "x")
	}
}

// frees leaves room for as many more files.
func frees(d *disk.Disk, many int) {
	for n := range many {
		d.Remove(fmt.Sprint("other", n))
	}
}

func TestFlushWithoutRoomForFiles(t *testing.T) {
	for left := range 3 {
		x := opens(t, saved(t, dataOf(plain("t"), 1, 1), 7), 1, 9)
		c := x.letIn()
		x.does(c, create(1, plain("u")))
		x.does(c, batch(2, put("u", nums(1, 1)...)))
		x.advance()
		fills(x.d, left)
		// A log, a part of a checkpoint, its manifest.
		x.refusesFlush(api.ErrLong)
		x.gets(c)
		x.refusesFlush(api.ErrLong)
		frees(x.d, 4)
		x.flush()
		x.savedNow(x.durable)
		x.gets(c, replyTo(x.ended[0]), replyTo(x.ended[1]))
		x.leavesFiles()
		x.crashes(1, 1)
	}
}

// Checkpoints that could not be written are due still, behind a crash, too.
func TestCrashBehindACheckpointThatWasRefused(t *testing.T) {
	x := opens(t, saved(t, dataOf(plain("t"), 1, 1), 7), 1, 9)
	c := x.letIn()
	x.does(c, create(1, plain("u")))
	x.advance()
	fills(x.d, 1)
	x.refusesFlush(api.ErrLong)
	frees(x.d, 4)
	if y := x.crashes(1, 1); y.first != 7 {
		t.Error(y.first)
	}
}

// What is too long for an entry of a log lasts all the same, by a checkpoint.
func TestFlushOfWhatNoLogHolds(t *testing.T) {
	wide := api.Table{Name: "wide", Columns: []api.Column{{Name: "a", Kind: api.VInt}, {Name: "n", Kind: api.VInt}, {Name: "b", Kind: api.VText}}, Key: 1}
	x := opens(t, saved(t, dataOf(wide), 7), 2, 9)
	c := x.letIn()
	var raise []api.Op
	for n := range int64(20) {
		x.does(c, batch(int(n), put("wide", num(n), num(n), txt(strings.Repeat("b", 4000)))))
		raise = append(raise, add("wide", 1, 1, num(n)))
	}
	x.ends()
	x.takes(c)
	for n := range 3 {
		done := x.does(c, batch(100, raise...))
		x.changed = append(x.changed, done.Out.Epoch)
		x.does(c, batch(101, raise[n:n+3]...))
		x.asks(c, batch(102, get("wide", num(1))))
		x.toil(1)
		x.advance()
		x.flush()
		x.gets(c)
		x.run()
		x.flush()
		x.savedNow(done.Out.Epoch)
		x.does(c, batch(103, raise[n:n+3]...))
		x.ends()
		x.savedNow(done.Out.Epoch)
		x.takes(c)
	}
	x.holds()
	x.crashes(1, 1)
}
