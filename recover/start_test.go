package recover_test

import (
	"fmt"
	"maps"
	"math"
	"slices"
	"strings"
	"testing"

	"hopper/api"
	"hopper/ckpt"
	"hopper/disk"
	back "hopper/recover"
	"hopper/wal"
)

// 20.2: a disk is made ready for new epochs.

// started is a Start with all that it answered.
func started(t *testing.T, what string, d *disk.Disk, workers int) (told, *wal.Log) {
	t.Helper()
	data, l, epoch, e := back.Start(d, workers)
	if e != api.OK {
		if data != nil || l != nil || epoch != 0 {
			t.Errorf("%s: beside %d: %v, %v, %d", what, e, data, l, epoch)
		}
		return told{code: e}, nil
	}
	if data == nil || l == nil {
		t.Fatal(what, "nothing is told:", data, l)
	}
	return told{stateOf(t, data), epoch, e}, l
}

// starts holds that Start does just what the model says; behind it, and behind a crash, the disk holds the same.
func starts(t *testing.T, what string, files map[string]string, workers int) (*disk.Disk, *wal.Log) {
	t.Helper()
	d := laid(t, files)
	want := modelStart(files, workers)
	got, l := started(t, what, d, workers)
	if want.code != api.OK {
		if got != (told{code: want.code}) {
			t.Errorf("%s: Start with %d: %s, not %d", what, workers, brief(got), want.code)
		}
	} else if got != want.held.told() {
		t.Errorf("%s: Start with %d: %s, not %s", what, workers, brief(got), brief(want.held.told()))
	}
	holds(t, what, d, want.last())
	if again := readOf(t, d); again != want.held.told() {
		t.Errorf("%s: Read behind Start: %s, not %s", what, brief(again), brief(want.held.told()))
	}
	return d, l
}

func TestStartOfAllSorts(t *testing.T) {
	t.Parallel()
	for what, files := range disks() {
		for _, workers := range []int{1, 3, api.MaxWorkers} {
			d, l := starts(t, what, files, workers)
			if l == nil {
				t.Fatal(what)
			}
			readyFor(t, what, d, l, files, workers)
		}
	}
}

// readyFor holds that a log has these workers, that nothing waits, that it takes entries of greater epochs alone, in files of the generation behind all that there were; and that these are recovered on top when they are marked.
func readyFor(t *testing.T, what string, d *disk.Disk, l *wal.Log, files map[string]string, workers int) {
	t.Helper()
	want := modelStart(files, workers)
	epoch := want.held.epoch
	for w := range workers {
		if n, e := l.Waiting(w); n != 0 || e != api.OK {
			t.Errorf("%s: of the worker %d wait %d, %d", what, w, n, e)
		}
		for _, old := range []int{0, want.held.durable, epoch - 1, epoch} {
			is(t, what+": an entry that is not above", l.Add(w, small(max(0, old), api.MaxSeq, 1)), api.ErrOlder)
		}
	}
	if n, e := l.Waiting(workers); n != 0 || e != api.ErrWorker {
		t.Errorf("%s: one worker more: %d, %d", what, n, e)
	}
	is(t, what+": a mark that is not above", l.Mark(epoch), api.ErrRange)
	if epoch == api.MaxEpoch {
		return
	}
	for w := range workers {
		is(t, what+": an entry that is above", l.Add(w, small(epoch+1, w, int64(1000+w))), api.OK)
		is(t, what+": Flush", l.Flush(w), api.OK)
		name := fmt.Sprintf("log.%d.%d", w, want.generation)
		if s, e := d.Read(name); s != logged(small(epoch+1, w, int64(1000+w))) || e != api.OK {
			t.Errorf("%s: %s: %s, %d; there are %v", what, name, brief(s), e, d.Names())
		}
	}
	if got := readOf(t, d); got != want.held.told() {
		t.Errorf("%s: entries that are not marked: %s", what, brief(got))
	}
	is(t, what+": Mark", l.Mark(epoch+1), api.OK)
	d.Crash(nil)
	on := modelRead(filesOf(d))
	if got := readOf(t, d); got != on.told() {
		t.Errorf("%s: entries on top: %s, not %s", what, brief(got), brief(on.told()))
	}
	hasT := slices.ContainsFunc(want.held.tables, func(x modelTable) bool { return x.schema.Name == "t" && len(x.schema.Columns) == 1 })
	if hasT && on.epoch != epoch+1 || !hasT && on.code != api.ErrCorrupt {
		t.Errorf("%s: entries on top: the model tells %s", what, brief(on))
	}
}

// The files of some Starts, written out.
func TestFilesBehindStart(t *testing.T) {
	schema := schemaBody(plain("t"))
	part := frames(schema, "\x02"+rowBytes(num(1)), "\x02"+rowBytes(num(3)))
	for _, x := range []struct {
		what          string
		files, behind map[string]string
	}{
		{"an empty disk", nil, map[string]string{"manifest": manifest(0, 0, 0, 0)}},
		{"a mark alone", map[string]string{"epoch": marked(2, 4)}, map[string]string{"manifest": manifest(0, 0, 0, 4), "epoch": marked(4)}},
		{"marks of which none is whole", map[string]string{"epoch": "\x08"}, map[string]string{"manifest": manifest(0, 0, 0, 0)}},
		{"a checkpoint alone, of 0", checkpoint(0, numbers(1, 3), 0), map[string]string{"manifest": manifest(1, 1, 3, 0), "ckpt.1.0": part}},
		{"a checkpoint alone", checkpoint(7, numbers(1, 3), 5), map[string]string{"manifest": manifest(8, 1, 3, 5), "ckpt.8.0": part, "epoch": marked(5)}},
		{"the durable epoch above", both(checkpoint(0, numbers(1), 2), map[string]string{"log.0.0": logged(small(2, 0, 2), small(3, 0, 3)), "epoch": marked(2, 3)}),
			map[string]string{"manifest": manifest(1, 1, 3, 3), "ckpt.1.0": part, "epoch": marked(3)}},
		{"the durable epoch is the checkpoint's", both(checkpoint(0, numbers(1, 3), 3), map[string]string{"log.0.0": logged(small(3, 0, 4)), "epoch": marked(3)}),
			map[string]string{"manifest": manifest(1, 1, 3, 3), "ckpt.1.0": part, "epoch": marked(3)}},
		{"the durable epoch below", both(checkpoint(0, numbers(1, 3), 9), map[string]string{"log.0.0": logged(small(2, 0, 2), small(3, 0, 3)), "log.1.5": logged(small(12, 0, 3)), "epoch": marked(1, 3)}),
			map[string]string{"manifest": manifest(1, 1, 3, 9), "ckpt.1.0": part, "epoch": marked(3, 9)}},
		{"strangers stay", map[string]string{"log.0": "a", "log.0.0.1": "b", "epoch.old": "c", "ckpt.0": "d", "log.0.00": "", "epoch.new": "e", "manifest.new": "f", "ckpt.4.4": "g"},
			map[string]string{"manifest": manifest(5, 0, 0, 0), "log.0": "a", "log.0.0.1": "b", "epoch.old": "c", "ckpt.0": "d", "epoch.new": "e"}},
	} {
		d, _ := starts(t, x.what, x.files, 2)
		holds(t, x.what, d, x.behind)
		// All of it is safe.
		d.Crash(slices.Repeat([]int{-1}, api.MaxFiles))
		holds(t, "a crash: "+x.what, d, x.behind)
	}
}

// What the layers below do one behind the other is what Start does.
func TestStartIsMadeOfTheLayersBelow(t *testing.T) {
	for what, files := range disks() {
		held := modelRead(files)
		plain, d := laid(t, files), laid(t, files)
		generation := -1
		for _, name := range plain.Names() {
			generation = max(generation, generationIn(name))
		}
		_, e := ckpt.Write(plain, dataOf(t, held.tables), held.epoch)
		is(t, what+": Write", e, api.OK)
		l, e := wal.Open(plain, 2)
		is(t, what+": Open", e, api.OK)
		_, e = l.Trim(generation)
		is(t, what+": Trim", e, api.OK)
		if held.epoch > held.durable {
			is(t, what+": Mark", l.Mark(held.epoch), api.OK)
		}
		started(t, what, d, 2)
		holds(t, what, d, filesOf(plain))
	}
}

func TestWorkers(t *testing.T) {
	t.Parallel()
	for what, files := range disks() {
		for _, workers := range []int{math.MinInt, -1, 0, api.MaxWorkers + 1, 1 << 32, 1<<32 + 1, math.MaxInt} {
			_, l := starts(t, what, files, workers)
			if l != nil {
				t.Errorf("%s: there is a log with %d", what, workers)
			}
			d := laid(t, files)
			got, _ := started(t, what, d, workers)
			if got.code != api.ErrRange {
				t.Errorf("%s: %d: %d", what, workers, got.code)
			}
			holds(t, what, d, files)
			// Ahead of what the disk refuses.
			d.Fuse(0)
			if got, _ := started(t, what, d, workers); got.code != api.ErrRange {
				t.Errorf("%s: %d, and no change is left: %d", what, workers, got.code)
			}
			is(t, "the fuse is left", d.Fuse(1), api.OK)
			is(t, "the disk is up", d.Append("more", "x"), api.OK)
		}
	}
	for _, workers := range []int{math.MinInt, -1, 0, 1, api.MaxWorkers, api.MaxWorkers + 1, math.MaxInt} {
		if data, l, n, e := back.Start(nil, workers); data != nil || l != nil || n != 0 || e != api.ErrNone {
			t.Error("no disk:", workers, data, l, n, e)
		}
	}
}

// What Read refuses comes ahead of all else, down or not; workers of all sorts are in refuses.
func TestStartOfWhatReadRefuses(t *testing.T) {
	for _, files := range []map[string]string{
		{"manifest": "x"},
		{"epoch": marked(3, 2)},
		{"log.0.0": framed("x")},
		both(checkpoint(0, numbers(), 3), map[string]string{"epoch": marked(5), "log.0.0": logged(entry(4, 0, unfit()[0]))}),
		both(checkpoint(0, numbers(), 3), map[string]string{"epoch": marked(5), "log.0.0": logged(entry(4, 0, unfit()[0])), "ckpt.2147483648.0": ""}),
	} {
		refuses(t, "corrupt", laid(t, files), api.ErrCorrupt)
		d := laid(t, crowded(files, 0))
		refuses(t, "corrupt and full", d, api.ErrCorrupt)
		d.Fuse(0)
		refuses(t, "corrupt, and no change is left", d, api.ErrCorrupt)
		is(t, "down", d.Sync("other0"), api.ErrDown)
		refuses(t, "corrupt and down", d, api.ErrCorrupt)
	}
}

// The first, the second, .. change is refused: the files are those behind the changes ahead of it.
func TestRefusedChanges(t *testing.T) {
	t.Parallel()
	for what, files := range disks() {
		want := modelStart(files, 2)
		for fuse := range want.changes() + 3 {
			d := laid(t, files)
			d.Fuse(fuse)
			got, _ := started(t, what, d, 2)
			made, code := min(fuse, want.changes()), api.OK
			if fuse < want.changes() {
				code = api.ErrDown
			}
			if got.code != code {
				t.Errorf("%s: behind %d changes: %d, not %d", what, fuse, got.code, code)
			}
			holds(t, fmt.Sprint(what, " behind ", fuse), d, want.behind(made))
			// Each change was made but once, and no other one.
			if code == api.OK {
				for left := range fuse - made {
					is(t, "left of the fuse", d.Append("more", fmt.Sprint(left)), api.OK)
				}
			}
			is(t, "nothing is left of the fuse", d.Append("more", ""), api.ErrDown)
			if got := readOf(t, d); got != want.held.told() {
				t.Errorf("%s: down behind %d changes: %s, not %s", what, fuse, brief(got), brief(want.held.told()))
			}
			before := filesOf(d)
			if got, _ := started(t, what, d, 2); got.code != api.ErrDown {
				t.Errorf("%s: a disk that is down: %s", what, brief(got))
			}
			holds(t, "down: "+what, d, before)
		}
	}
}

// crowded answers files with so many others that there is room for just so many more.
func crowded(files map[string]string, room int) map[string]string {
	out := maps.Clone(files)
	for n := 0; len(out) < api.MaxFiles-room; n++ {
		out[fmt.Sprint("other", n)] = "x"
	}
	return out
}

func TestNoRoom(t *testing.T) {
	t.Parallel()
	codes := map[string]int{}
	for what, files := range disks() {
		for room := range 6 {
			if len(files)+room > api.MaxFiles {
				continue
			}
			full := crowded(files, room)
			d, _ := starts(t, fmt.Sprint(what, ", with room for ", room), full, 2)
			want := modelStart(full, 2)
			place := "nowhere"
			if want.code == api.ErrLong {
				place = "the checkpoint"
				if want.last()["manifest"] != files["manifest"] {
					place = "the log"
				}
			}
			codes[place]++
			// Taking a stranger away makes room, and what was recovered is the same.
			if want.code == api.ErrLong {
				for n := range 6 {
					d.Remove(fmt.Sprint("other", n))
				}
				if got, _ := started(t, what, d, 2); got != want.held.told() {
					t.Errorf("%s: room was made: %s, not %s", what, brief(got), brief(want.held.told()))
				}
			}
		}
	}
	for _, place := range []string{"nowhere", "the checkpoint", "the log"} {
		if codes[place] == 0 {
			t.Error("never refused:", place, codes)
		}
	}
	// A new manifest, and then new marks, take the same room one behind the other.
	for room, want := range []told{{code: api.ErrLong}, {epoch: 4}} {
		if got, _ := started(t, "full", laid(t, crowded(checkpoint(0, nil, 4), room)), 1); got != want {
			t.Errorf("room for %d: %s, not %s", room, brief(got), brief(want))
		}
	}
}

func TestLastNumbers(t *testing.T) {
	t.Parallel()
	for _, number := range []string{"2147483648", "2147483649", "1099511627776", "99999999999999999999"} {
		for _, files := range []map[string]string{nil, checkpoint(0, numbers(1), 5), {"epoch": marked(3)}} {
			files := with(files, "ckpt."+number+".0", "x")
			want := modelRead(files)
			d := laid(t, files)
			if got, _ := started(t, number, d, 1); got.code != api.ErrRange {
				t.Error("the checkpoint", number, brief(got))
			}
			holds(t, number, d, files)
			tells(t, number, d, want.tables, want.epoch)
		}
	}
	d, _ := starts(t, "the last number", checkpoint(api.MaxEpoch-1, numbers(1), 5), 1)
	if _, e := d.Read("ckpt.2147483648.0"); e != api.OK {
		t.Error("the last number:", d.Names())
	}
	if got, _ := started(t, "behind the last number", d, 1); got.code != api.ErrRange {
		t.Error("behind the last number:", brief(got))
	}
	tells(t, "behind the last number", d, numbers(1), 5)
	// A log's number is no reason to refuse; but Rotate is told of it.
	for number, opened := range map[string]string{
		"2147483646": "2147483647", "2147483647": "2147483648", "2147483648": "2147483649", "1099511627775": "1099511627776", "1099511627776": "1099511627777", "1099511627777": "1099511627777", "99999999999999999999999": "1099511627777",
	} {
		files := both(checkpoint(0, numbers(1), 5), map[string]string{"log.3." + number: logged(small(6, 0, 2)), "epoch": marked(6)})
		for range 3 {
			d, l := starts(t, "log "+number, files, 1)
			is(t, "Add", l.Add(0, small(7, 0, 3)), api.OK)
			is(t, "Flush", l.Flush(0), api.OK)
			if _, e := d.Read("log.0." + opened); e != api.OK {
				t.Error(number, d.Names())
			}
			_, e := l.Rotate()
			if refused := len(opened) > 10 || opened >= "2147483648"; (e == api.ErrRange) != refused {
				t.Error("Rotate:", number, e)
			}
			if _, e := d.Read("log.3." + number); e != api.ErrNone {
				t.Error("not trimmed:", number)
			}
			is(t, "Mark", l.Mark(7), api.OK)
			d.Crash(nil)
			tells(t, number, d, numbers(1, 2, 3), 7)
			if got, _ := started(t, number, d, 1); got.epoch != 7 || len(d.Names()) != 3 {
				t.Error(number, brief(got), d.Names())
			}
		}
	}
}

// Names of logs of all sorts, and others, alone and together: just the logs are trimmed.
func TestWhichLogsAreTrimmed(t *testing.T) {
	logs := []string{"log.0.0", "log.0.1", "log.15.0", "log.16.3", "log.00.2", "log.0.07", "log.123456789012345678901.4", "log.0.10", "log.9.9"}
	others := []string{"log", "log.", "log..", "log.0", "log.0.", "log..1", "log.0.1.", "log.0.1.2", ".log.0.1", "log.a.1", "log.1.a", "log.1.1a", "log.a1.1", "xlog.1.1", "logs.1.1", "log0.1.1", "epoch.1", "l.1.1", "0.1", "12.99"}
	for _, name := range append(logs, others...) {
		d, l := starts(t, name, map[string]string{name: ""}, 1)
		_, e := d.Read(name)
		if isLog := slices.Contains(logs, name); isLog != (e == api.ErrNone) {
			t.Error(name, e)
		}
		is(t, "Add", l.Add(0, small(1, 0, 1)), api.OK)
		is(t, "Flush", l.Flush(0), api.OK)
		opened := fmt.Sprint("log.0.", generationIn(name)+1)
		if _, e := d.Read(opened); e != api.OK {
			t.Error(name, "no", opened, d.Names())
		}
	}
	files := map[string]string{}
	for _, name := range append(logs, others...) {
		files[name] = ""
	}
	d, l := starts(t, "all", files, 1)
	left := append(slices.Clone(others), "manifest")
	slices.Sort(left)
	if strings.Join(d.Names(), " ") != strings.Join(left, " ") {
		t.Error(d.Names())
	}
	l.Add(0, small(1, 0, 1))
	l.Flush(0)
	if _, e := d.Read("log.0.11"); e != api.OK {
		t.Error(d.Names())
	}
}

// Again and again, without anything new: the same, with a checkpoint whose number rises.
func TestStartAgain(t *testing.T) {
	t.Parallel()
	for what, files := range disks() {
		want := modelRead(files)
		for n := range 4 {
			d, _ := starts(t, fmt.Sprint(what, ", once more ", n), files, 1+n)
			d.Crash([]int{3, 4, 5})
			files = filesOf(d)
			tells(t, what, d, want.tables, want.epoch)
			for _, name := range d.Names() {
				if generationIn(name) >= 0 {
					t.Error(what, "a log is left:", name)
				}
			}
		}
	}
}
