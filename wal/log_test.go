package wal_test

import (
	"math"
	"slices"
	"strings"
	"testing"

	"hopper/api"
	"hopper/disk"
	"hopper/wal"
)

// noWorkers are numbers of no worker among two.
func noWorkers() []int {
	return []int{math.MinInt, -1 << 31, -2, -1, 2, 3, api.MaxWorkers, 1 << 31, 1 << 32, math.MaxInt}
}

// The chapter's example.
func TestExample(t *testing.T) {
	d := disk.New()
	l := opened(t, d, 2)
	first, second := small(1, 0, 5), small(2, 0, 6)
	is(t, "Add 0 of the epoch 1", l.Add(0, first), api.OK)
	is(t, "Flush 0", l.Flush(0), api.OK)
	is(t, "Mark 1", l.Mark(1), api.OK)
	is(t, "Add 0 of the epoch 1", l.Add(0, small(1, 1, 7)), api.ErrOlder)
	is(t, "Add 1 of the epoch 2", l.Add(1, second), api.OK)
	is(t, "Mark 2", l.Mark(2), api.ErrLog)
	is(t, "Flush 1", l.Flush(1), api.OK)
	is(t, "Mark 2", l.Mark(2), api.OK)
	d.Crash(nil)
	loads(t, "behind a crash", d, 2, first, second)
}

// 18.4: Add, Waiting and Flush.

func TestAddOlder(t *testing.T) {
	l := opened(t, disk.New(), 2)
	for _, x := range []struct {
		w, epoch, seq int
		want          api.Errno
	}{
		{0, 0, 0, api.ErrOlder}, {0, 0, api.MaxSeq, api.ErrOlder}, // the durable epoch is 0
		{0, 2, 5, api.OK}, {0, 2, 5, api.ErrOlder}, {0, 2, 4, api.ErrOlder}, {0, 1, 9, api.ErrOlder}, {0, 2, 6, api.OK},
		{1, 2, 5, api.OK}, {1, 2, 4, api.ErrOlder}, {1, 2, 5, api.ErrOlder}, // of each worker by itself
		{0, 1, api.MaxSeq, api.ErrOlder}, {0, 3, 0, api.OK}, {0, 2, api.MaxSeq, api.ErrOlder}, {0, 3, 1, api.OK}, {1, 3, 0, api.OK}, {1, 2, 7, api.ErrOlder},
		{0, api.MaxEpoch, api.MaxSeq - 1, api.OK}, {0, api.MaxEpoch, api.MaxSeq, api.OK}, {0, api.MaxEpoch, api.MaxSeq, api.ErrOlder},
	} {
		is(t, brief(x), l.Add(x.w, small(x.epoch, x.seq, 5)), x.want)
	}
	waits(t, "Add", l, 6, 2)
}

// The last one counts when it is written, too, and in another generation; one that was refused does not count.
func TestAddBehindWritten(t *testing.T) {
	l := opened(t, disk.New(), 2)
	is(t, "Add", l.Add(0, small(1, 5, 1)), api.OK)
	is(t, "Flush", l.Flush(0), api.OK)
	is(t, "Add", l.Add(0, small(1, 5, 1)), api.ErrOlder)
	generation(t, l)
	is(t, "Add", l.Add(0, small(1, 4, 1)), api.ErrOlder)
	is(t, "Add", l.Add(0, api.Entry{Tid: tidOf(9, 0)}), api.ErrLog)
	is(t, "Add", l.Add(0, sized(9, 0, longest+1)), api.ErrLong)
	is(t, "Add", l.Add(0, small(1, 6, 1)), api.OK)
	is(t, "Flush", l.Flush(0), api.OK)
	is(t, "Mark", l.Mark(4), api.OK)
	// Epochs below, at and above the durable one, of one that has added and of one that has not.
	for w := range 2 {
		for _, x := range []struct {
			epoch, seq int
			want       api.Errno
		}{{0, 0, api.ErrOlder}, {1, 7, api.ErrOlder}, {3, 0, api.ErrOlder}, {4, 0, api.ErrOlder}, {4, api.MaxSeq, api.ErrOlder}, {5, 0, api.OK}, {5, 0, api.ErrOlder}} {
			is(t, brief(x), l.Add(w, small(x.epoch, x.seq, 5)), x.want)
		}
	}
	waits(t, "Add", l, 1, 1)
}

// Errors in their order: the worker, what Bytes refuses (ErrLog, ErrLong), ErrOlder.
func TestAddErrors(t *testing.T) {
	l := opened(t, disk.New(), 2)
	is(t, "Add", l.Add(0, small(5, 0, 1)), api.OK)
	bad := []api.Entry{{}, entry(1, 0), {Tid: tidOf(9, 0) + 1, Writes: small(1, 0, 1).Writes}, entry(api.MaxEpoch+1, 0, gone("t", "k")), entry(9, 0, put(most+"x", "")), entry(9, 0, put("", most+"x")), entry(0, 0, api.Write{Gone: true, Row: row{{}}}), {Tid: 1, Writes: sized(1, 0, longest+1).Writes}}
	for _, values := range badRows() {
		bad = append(bad, entry(9, 0, put("t", "k", values...)), entry(1, 0, put("t", "k", values...)))
	}
	for _, x := range bad {
		is(t, brief(x), l.Add(0, x), api.ErrLog)
		is(t, brief(x), l.Add(1, x), api.ErrLog)
	}
	for _, epoch := range []int{0, 5, 9} {
		is(t, "too long", l.Add(0, sized(epoch, 0, longest+1)), api.ErrLong)
	}
	for _, w := range noWorkers() {
		for _, x := range append(bad, sized(9, 0, longest+1), small(0, 0, 1), small(9, 0, 1)) {
			is(t, "no worker", l.Add(w, x), api.ErrWorker)
		}
		is(t, "no worker", l.Flush(w), api.ErrWorker)
		if n, e := l.Waiting(w); n != 0 || e != api.ErrWorker {
			t.Error(w, n, e)
		}
	}
	waits(t, "Add", l, 1, 0)
}

func TestWaiting(t *testing.T) {
	d := disk.New()
	l := opened(t, d, 3)
	for n := range 5 {
		is(t, "Add", l.Add(1, small(1, n, 5)), api.OK)
		waits(t, "Add", l, 0, n+1, 0)
	}
	is(t, "Add", l.Add(2, small(1, 3, 5)), api.OK)
	is(t, "Add", l.Add(2, small(1, 3, 5)), api.ErrOlder)
	waits(t, "Add", l, 0, 5, 1)
	// Waiting changes nothing, nor does a flush of another one.
	is(t, "Flush", l.Flush(0), api.OK)
	waits(t, "Flush", l, 0, 5, 1)
	holds(t, "nothing written", d, nil)
	is(t, "Flush", l.Flush(1), api.OK)
	waits(t, "Flush", l, 0, 0, 1)
	generation(t, l)
	waits(t, "Rotate", l, 0, 0, 1)
	is(t, "Flush", l.Flush(2), api.OK)
	waits(t, "Flush", l, 0, 0, 0)
	holds(t, "all written", d, map[string]string{"log.1.0": logged(small(1, 0, 5), small(1, 1, 5), small(1, 2, 5), small(1, 3, 5), small(1, 4, 5)), "log.2.1": logged(small(1, 3, 5))})
}

func TestFlush(t *testing.T) {
	d := disk.New()
	l := opened(t, d, 2)
	is(t, "nothing", l.Flush(0), api.OK)
	holds(t, "nothing", d, nil)
	is(t, "Add", l.Add(0, all()), api.OK)
	is(t, "one", l.Flush(0), api.OK)
	holds(t, "one", d, map[string]string{"log.0.0": logged(all())})
	is(t, "nothing more", l.Flush(0), api.OK)
	is(t, "Add", l.Add(0, small(3, 8, 1)), api.OK)
	is(t, "Add", l.Add(0, small(4, 0, 2)), api.OK)
	is(t, "two more", l.Flush(0), api.OK)
	holds(t, "three", d, map[string]string{"log.0.0": logged(all(), small(3, 8, 1), small(4, 0, 2))})
	generation(t, l)
	is(t, "nothing in another generation", l.Flush(0), api.OK)
	is(t, "Add", l.Add(0, small(4, 1, 3)), api.OK)
	is(t, "another generation", l.Flush(0), api.OK)
	want := map[string]string{"log.0.0": logged(all(), small(3, 8, 1), small(4, 0, 2)), "log.0.1": logged(small(4, 1, 3))}
	holds(t, "two files", d, want)
	// What is flushed is synced.
	d.Crash([]int{-1, -1})
	holds(t, "behind a crash", d, want)
}

// Of what waits as many as fit go in one Append and one Sync.
func TestFlushAtOnce(t *testing.T) {
	for fuse := range 4 {
		d := disk.New()
		l := opened(t, d, 1)
		var list []api.Entry
		for n := range 50 {
			list = append(list, small(1, n, int64(n)))
			is(t, "Add", l.Add(0, list[n]), api.OK)
		}
		d.Fuse(fuse)
		e := l.Flush(0)
		switch fuse {
		case 0:
			is(t, "no change", e, api.ErrDown)
			waits(t, "no change", l, 50)
			holds(t, "no change", d, nil)
		case 1:
			is(t, "one change", e, api.ErrDown)
			waits(t, "one change", l, 50)
			holds(t, "one change", d, map[string]string{"log.0.0": logged(list...)})
			d.Crash([]int{-1})
			holds(t, "one change", d, map[string]string{"log.0.0": ""})
		default:
			is(t, "two changes", e, api.OK)
			waits(t, "two changes", l, 0)
			// As many as are left of the fuse.
			for range fuse - 2 {
				is(t, "one more", d.Append("a", ""), api.OK)
			}
			is(t, "one too many", d.Append("a", ""), api.ErrDown)
		}
	}
}

// quarter is an entry whose frame has just a fourth of what a file may have.
func quarter(seq int) api.Entry { return sized(1, seq, api.MaxBytes/4-8) }

// Frames of just api.MaxBytes together go at once; of one byte more the last one stays.
func TestFlushOfJustAsMany(t *testing.T) {
	list := []api.Entry{quarter(0), quarter(1), quarter(2), quarter(3)}
	if len(logged(list...)) != api.MaxBytes {
		t.Fatal("they are not as many")
	}
	for _, fuse := range []int{0, 1, 2} {
		d := disk.New()
		l := opened(t, d, 1)
		for _, x := range list {
			is(t, "Add", l.Add(0, x), api.OK)
		}
		d.Fuse(fuse)
		if fuse < 2 {
			is(t, "down", l.Flush(0), api.ErrDown)
			waits(t, "down", l, 4)
			continue
		}
		is(t, "just as many", l.Flush(0), api.OK)
		waits(t, "just as many", l, 0)
		holds(t, "just as many", d, map[string]string{"log.0.0": logged(list...)})
	}
}

func TestFlushOfOneMore(t *testing.T) {
	more := sized(1, 3, api.MaxBytes/4-7)
	d := disk.New()
	l := opened(t, d, 2)
	for _, x := range []api.Entry{quarter(0), quarter(1), quarter(2), more} {
		is(t, "Add", l.Add(0, x), api.OK)
	}
	first := logged(quarter(0), quarter(1), quarter(2))
	// The file has no room for the last one; those ahead of it are written, and wait no more.
	for range 2 {
		is(t, "one more", l.Flush(0), api.ErrLong)
		waits(t, "one more", l, 1, 0)
		holds(t, "one more", d, map[string]string{"log.0.0": first})
	}
	is(t, "Mark of what waits", l.Mark(1), api.ErrLog)
	is(t, "Add behind it", l.Add(0, small(1, 4, 5)), api.OK)
	generation(t, l)
	is(t, "another file", l.Flush(0), api.OK)
	waits(t, "another file", l, 0, 0)
	holds(t, "another file", d, map[string]string{"log.0.0": first, "log.0.1": logged(more, small(1, 4, 5))})
	is(t, "Mark", l.Mark(1), api.OK)
	d.Crash(nil)
	loads(t, "all", d, 1, quarter(0), quarter(1), quarter(2), more, small(1, 4, 5))
}

// Those that are written first are safe, when a later change is refused.
func TestFlushOfOneMoreDown(t *testing.T) {
	d := disk.New()
	l := opened(t, d, 1)
	for n := range 9 {
		is(t, "Add", l.Add(0, quarter(n)), api.OK)
	}
	is(t, "three files", l.Flush(0), api.ErrLong)
	waits(t, "three files", l, 5)
	generation(t, l)
	d.Fuse(1)
	is(t, "three files", l.Flush(0), api.ErrDown)
	waits(t, "three files", l, 5)
	holds(t, "not synced", d, map[string]string{"log.0.0": logged(quarter(0), quarter(1), quarter(2), quarter(3)), "log.0.1": logged(quarter(4), quarter(5), quarter(6), quarter(7))})
}

// The first ones are taken by their bytes alone, not by what the file has room for.
func TestFlushBehindOthers(t *testing.T) {
	d := disk.New()
	l := opened(t, d, 1)
	is(t, "Add", l.Add(0, small(1, 0, 1)), api.OK)
	is(t, "Flush", l.Flush(0), api.OK)
	for n := range 4 {
		is(t, "Add", l.Add(0, quarter(n+1)), api.OK)
	}
	is(t, "no room for all", l.Flush(0), api.ErrLong)
	waits(t, "no room for all", l, 4)
	holds(t, "no room for all", d, map[string]string{"log.0.0": logged(small(1, 0, 1))})
	generation(t, l)
	is(t, "room", l.Flush(0), api.OK)
	waits(t, "room", l, 0)
}

// A single entry as long as there may be, and many of them: a file has room for three.
func TestFlushOfTheLongest(t *testing.T) {
	d := disk.New()
	l := opened(t, d, 1)
	is(t, "Add", l.Add(0, sized(1, 0, longest)), api.OK)
	is(t, "one", l.Flush(0), api.OK)
	want := map[string]string{"log.0.0": logged(sized(1, 0, longest))}
	holds(t, "one", d, want)
	for n := 1; n < 8; n++ {
		is(t, "Add", l.Add(0, sized(1, n, longest)), api.OK)
	}
	is(t, "no room for three more", l.Flush(0), api.ErrLong)
	waits(t, "no room for three more", l, 7)
	holds(t, "no room for three more", d, want)
	for _, x := range []struct{ from, left int }{{1, 4}, {4, 1}, {7, 0}} {
		g := generation(t, l) + 1
		e := l.Flush(0)
		if x.left > 0 {
			is(t, "three at once", e, api.ErrLong)
		} else {
			is(t, "the last one", e, api.OK)
		}
		waits(t, "Flush", l, x.left)
		for n := x.from; n < 8-x.left; n++ {
			want["log.0."+brief(g)] += logged(sized(1, n, longest))
		}
		holds(t, "Flush", d, want)
	}
}

// There is no room for another file.
func TestFlushOfAFullDisk(t *testing.T) {
	d := disk.New()
	l := opened(t, d, 2)
	is(t, "Add", l.Add(0, small(1, 0, 1)), api.OK)
	is(t, "Flush", l.Flush(0), api.OK)
	for n := 1; n < api.MaxFiles; n++ {
		d.Append("a"+brief(n), "")
	}
	is(t, "Add", l.Add(0, small(1, 1, 2)), api.OK)
	is(t, "Add", l.Add(1, small(1, 2, 3)), api.OK)
	is(t, "a new file", l.Flush(1), api.ErrLong)
	is(t, "one that is there", l.Flush(0), api.OK)
	is(t, "Mark", l.Mark(1), api.ErrLog)
	waits(t, "Flush", l, 0, 1)
	d.Remove("a1")
	is(t, "room", l.Flush(1), api.OK)
	is(t, "no room for epochs", l.Mark(1), api.ErrLong)
	is(t, "not durable", l.Add(0, small(1, 3, 4)), api.OK)
	is(t, "Flush", l.Flush(0), api.OK)
	d.Remove("a2")
	is(t, "room", l.Mark(1), api.OK)
	loads(t, "all", d, 1, small(1, 0, 1), small(1, 1, 2), small(1, 2, 3), small(1, 3, 4))
}

// 18.5: Mark, Rotate and Trim.

func TestMark(t *testing.T) {
	d := disk.New()
	l := opened(t, d, 1)
	var done []uint64
	for _, x := range []struct {
		epoch int
		want  api.Errno
	}{
		{math.MinInt, api.ErrRange}, {-1, api.ErrRange}, {0, api.ErrRange}, {api.MaxEpoch + 1, api.ErrRange}, {math.MaxInt, api.ErrRange}, {1 << 32, api.ErrRange},
		{1, api.OK}, {1, api.ErrRange}, {0, api.ErrRange}, {2, api.OK}, {1, api.ErrRange}, {2, api.ErrRange}, {7, api.OK}, {6, api.ErrRange}, {8, api.OK}, {api.MaxEpoch - 1, api.OK}, {api.MaxEpoch + 1, api.ErrRange}, {api.MaxEpoch, api.OK}, {api.MaxEpoch, api.ErrRange}, {api.MaxEpoch + 1, api.ErrRange},
	} {
		is(t, brief(x), l.Mark(x.epoch), x.want)
		if x.want == api.OK {
			done = append(done, uint64(x.epoch))
		}
		want := map[string]string{}
		if len(done) > 0 {
			want["epoch"] = marked(done...)
		}
		holds(t, brief(x), d, want)
	}
	// All of it is synced.
	d.Crash([]int{-1})
	loads(t, "behind a crash", d, api.MaxEpoch)
}

// Entries that wait below, at and above the epoch, of whichever worker.
func TestMarkOfWhatWaits(t *testing.T) {
	for w := range 3 {
		for _, x := range []struct {
			waits []int
			epoch int
			want  api.Errno
		}{
			{[]int{4}, 3, api.OK}, {[]int{4}, 4, api.ErrLog}, {[]int{4}, 5, api.ErrLog}, {[]int{1}, 1, api.ErrLog}, {[]int{2, 9}, 1, api.OK}, {[]int{2, 9}, 2, api.ErrLog}, {[]int{2, 9}, 5, api.ErrLog}, {[]int{2, 9}, 9, api.ErrLog}, {[]int{api.MaxEpoch}, api.MaxEpoch, api.ErrLog}, {[]int{api.MaxEpoch}, api.MaxEpoch - 1, api.OK},
			{[]int{1}, 0, api.ErrRange}, {[]int{1}, api.MaxEpoch + 1, api.ErrRange}, {nil, 5, api.OK},
		} {
			d := disk.New()
			l := opened(t, d, 3)
			for at, epoch := range x.waits {
				is(t, "Add", l.Add(w, small(epoch, at, 5)), api.OK)
			}
			is(t, brief(x), l.Mark(x.epoch), x.want)
			if _, e := d.Read("epoch"); (e == api.OK) != (x.want == api.OK) {
				t.Errorf("%v: %d", x, e)
			}
			if x.want == api.ErrLog {
				// When they wait no more it goes.
				is(t, "Flush", l.Flush(w), api.OK)
				is(t, brief(x), l.Mark(x.epoch), api.OK)
			}
		}
	}
}

// ErrRange goes ahead of ErrLog, that ahead of what the disk refuses.
func TestMarkErrors(t *testing.T) {
	d := disk.New()
	l := opened(t, d, 1)
	is(t, "Mark", l.Mark(3), api.OK)
	is(t, "Add", l.Add(0, small(4, 0, 5)), api.OK)
	d.Fuse(0)
	is(t, "a range", l.Mark(3), api.ErrRange)
	is(t, "a range", l.Mark(api.MaxEpoch+1), api.ErrRange)
	is(t, "what waits", l.Mark(4), api.ErrLog)
	// None of these has asked for a change.
	d.Fuse(5)
	is(t, "Flush", l.Flush(0), api.OK)
	is(t, "Mark", l.Mark(4), api.OK)
	is(t, "what is left", d.Append("a", ""), api.OK)
	is(t, "nothing is left", d.Append("a", ""), api.ErrDown)
	is(t, "down", l.Mark(5), api.ErrDown)
}

func TestMarkDown(t *testing.T) {
	for fuse := range 3 {
		for _, draw := range []int{-1, 0, 7, 15, 16} {
			d := laid(t, map[string]string{"epoch": marked(2)})
			l := opened(t, d, 1)
			d.Fuse(fuse)
			e := l.Mark(7)
			want, durable := marked(2, 7), 2
			switch fuse {
			case 0:
				is(t, "no change", e, api.ErrDown)
				want = marked(2)
			case 1:
				is(t, "one change", e, api.ErrDown)
			case 2:
				is(t, "two changes", e, api.OK)
			}
			if fuse == 2 || fuse == 1 && draw == 16 {
				durable = 7
			}
			holds(t, "Mark", d, map[string]string{"epoch": want})
			d.Crash([]int{draw})
			loads(t, "Mark", d, durable)
		}
	}
}

// A file of epochs that is full takes no more; nothing becomes durable then.
func TestMarkLong(t *testing.T) {
	d := disk.New()
	l := opened(t, d, 1)
	n := 0
	for ; l.Mark(n+1) == api.OK; n++ {
	}
	if n != api.MaxBytes/16 {
		t.Error(n)
	}
	is(t, "full", l.Mark(n+1), api.ErrLong)
	is(t, "full", l.Mark(n+2), api.ErrLong)
	is(t, "durable", l.Mark(n), api.ErrRange)
	is(t, "Add", l.Add(0, small(n, 0, 1)), api.ErrOlder)
	is(t, "Add", l.Add(0, small(n+1, 0, 1)), api.OK)
	loads(t, "full", d, n)
	// Opened again, the file has room.
	l = opened(t, d, 1)
	holds(t, "Open", d, map[string]string{"epoch": marked(uint64(n))})
	is(t, "room", l.Mark(n+1), api.OK)
	loads(t, "room", d, n+1)
}

func TestRotate(t *testing.T) {
	d := disk.New()
	l := opened(t, d, 2)
	want := map[string]string{}
	for g := range 20 {
		x := small(1, g, int64(g))
		is(t, "Add", l.Add(0, x), api.OK)
		if g%2 == 0 {
			is(t, "Flush", l.Flush(0), api.OK)
			want["log.0."+brief(g)] += logged(x)
		} else {
			want["log.0."+brief(g+1)] = logged(x)
		}
		if got := generation(t, l); got != g {
			t.Error(got, g)
		}
	}
	is(t, "Flush", l.Flush(0), api.OK)
	// Rotate writes nothing itself.
	holds(t, "Rotate", d, want)
	if g := generation(t, opened(t, d, 1)); g != 21 {
		t.Error(g)
	}
}

func TestRotateBound(t *testing.T) {
	d := laid(t, map[string]string{"log.5.2147483645": ""})
	l := opened(t, d, 1)
	for _, want := range []int{api.MaxEpoch - 2, api.MaxEpoch - 1} {
		if g := generation(t, l); g != want {
			t.Error(g, want)
		}
	}
	for range 3 {
		if g, e := l.Rotate(); g != 0 || e != api.ErrRange {
			t.Error(g, e)
		}
	}
	is(t, "Add", l.Add(0, small(1, 0, 5)), api.OK)
	is(t, "Flush", l.Flush(0), api.OK)
	holds(t, "the last generation", d, map[string]string{"log.5.2147483645": "", "log.0.2147483648": logged(small(1, 0, 5))})
	if n, e := l.Trim(api.MaxEpoch); n != 0 || e != api.ErrRange {
		t.Error(n, e)
	}
	if n, e := l.Trim(api.MaxEpoch - 1); n != 1 || e != api.OK {
		t.Error(n, e)
	}
}

// trimmed holds how many files Trim has taken, and that all others are there.
func trimmed(t *testing.T, d *disk.Disk, l *wal.Log, generation int, names ...string) {
	t.Helper()
	want := filesOf(d)
	for _, name := range names {
		if _, there := want[name]; !there {
			t.Error("there is no", name)
		}
		delete(want, name)
	}
	if n, e := l.Trim(generation); n != len(names) || e != api.OK {
		t.Errorf("Trim %d: %d %d, not %d", generation, n, e, len(names))
	}
	holds(t, "Trim "+brief(generation), d, want)
}

func TestTrim(t *testing.T) {
	files := map[string]string{"epoch": marked(9), "a": "x", "epoch.new.1": "x"}
	for _, name := range []string{"log.0.0", "log.1.0", "log.15.1", "log.99.2", "log.0.3", "log.2.3", "log.0.10", "log.0.02", "log.00.007"} {
		files[name] = logged(small(1, 0, 1))
	}
	for _, name := range otherNames() {
		if name != "a" && name != "epoch.new" {
			files[name] = "x"
		}
	}
	d := laid(t, files)
	l := opened(t, d, 1) // of the generation 11
	is(t, "Add", l.Add(0, small(10, 0, 5)), api.OK)
	is(t, "Flush", l.Flush(0), api.OK)
	d.Append("log.3.12", "")
	for _, g := range []int{11, 12, 13, 1 << 31, 1 << 40, math.MaxInt} {
		before := filesOf(d)
		if n, e := l.Trim(g); n != 0 || e != api.ErrRange {
			t.Error(g, n, e)
		}
		holds(t, "Trim of what is written", d, before)
	}
	trimmed(t, d, l, math.MinInt)
	trimmed(t, d, l, -1)
	trimmed(t, d, l, 0, "log.0.0", "log.1.0")
	trimmed(t, d, l, 0)
	trimmed(t, d, l, 2, "log.15.1", "log.99.2", "log.0.02")
	trimmed(t, d, l, 1)
	trimmed(t, d, l, 9, "log.0.3", "log.2.3", "log.00.007")
	trimmed(t, d, l, 10, "log.0.10")
	trimmed(t, d, l, 10)
	generation(t, l)
	trimmed(t, d, l, 11, "log.0.11")
	generation(t, l)
	trimmed(t, d, l, 12, "log.3.12")
	// It writes on as if nothing were.
	is(t, "Add", l.Add(0, small(10, 1, 6)), api.OK)
	is(t, "Flush", l.Flush(0), api.OK)
	is(t, "Mark", l.Mark(10), api.OK)
	loads(t, "the last file", d, 10, small(10, 1, 6))
}

// What waits stays when files go.
func TestTrimKeepsWhatWaits(t *testing.T) {
	d := disk.New()
	l := opened(t, d, 1)
	is(t, "Add", l.Add(0, small(1, 0, 5)), api.OK)
	generation(t, l)
	trimmed(t, d, l, 0)
	waits(t, "Trim", l, 1)
	is(t, "Flush", l.Flush(0), api.OK)
	holds(t, "Flush", d, map[string]string{"log.0.1": logged(small(1, 0, 5))})
}

// Numbers above 2^40 count as that, in the names that Trim takes, too.
func TestTrimOfGreatGenerations(t *testing.T) {
	d := laid(t, map[string]string{"log.0.1099511627775": "", "log.0.1099511627776": "", "log.3.99999999999999999999": "", "log.9999999999999999999.5": "", "log.1.6": ""})
	l := opened(t, d, 1) // of the generation 2^40 + 1
	if n, e := l.Trim(1<<40 + 1); n != 0 || e != api.ErrRange {
		t.Error(n, e)
	}
	trimmed(t, d, l, 5, "log.9999999999999999999.5")
	trimmed(t, d, l, 1<<40-1, "log.0.1099511627775", "log.1.6")
	trimmed(t, d, l, 1<<40, "log.0.1099511627776", "log.3.99999999999999999999")
}

// By names: when the disk refuses, those whose names are first are gone.
func TestTrimDown(t *testing.T) {
	files := map[string]string{"a": "x", "epoch": marked(1), "log.2.9": ""}
	names := []string{"log.0.1", "log.0.10", "log.0.2", "log.1.0", "log.10.0", "log.2.0"}
	for _, name := range names {
		files[name] = logged(small(1, 0, 1))
	}
	if !slices.IsSorted(names) {
		t.Fatal("names are not in order")
	}
	for fuse := range len(names) + 1 {
		d := laid(t, files)
		l := opened(t, d, 1) // of the generation 11
		d.Fuse(fuse)
		n, e := l.Trim(8)
		want := files
		left := fuse
		for _, name := range names {
			if name != "log.0.10" && left > 0 {
				want = with(want, name, "")
				left--
			}
		}
		holds(t, "Trim", d, want)
		if fuse < len(names)-1 && (n != 0 || e != api.ErrDown) || fuse >= len(names)-1 && (n != len(names)-1 || e != api.OK) {
			t.Errorf("%d changes: %d %d", fuse, n, e)
		}
	}
}

// R5: calls that are refused change nothing that a later call could tell.
func TestRefusedCallsChangeNothing(t *testing.T) {
	run := func(between func(l *wal.Log)) (map[string]string, []api.Errno) {
		d := laid(t, map[string]string{"log.0.3": logged(small(1, 0, 1)), "epoch": marked(1)})
		l := opened(t, d, 2)
		var told []api.Errno
		for n := range 6 {
			for _, call := range []func() api.Errno{
				func() api.Errno { return l.Add(0, small(2+n, 0, 5)) }, func() api.Errno { return l.Add(1, small(2+n, 1, 6)) },
				func() api.Errno { return l.Flush(0) }, func() api.Errno { return l.Flush(1) },
				func() api.Errno { return l.Mark(2 + n) }, func() api.Errno { return l.Add(0, small(9, n, 5)) }, func() api.Errno { return l.Flush(0) },
				func() api.Errno { g, e := l.Rotate(); return api.Errno(100*g) + e }, func() api.Errno { n, e := l.Trim(n); return api.Errno(100*n) + e },
			} {
				between(l)
				told = append(told, call())
				for w := range 2 {
					n, e := l.Waiting(w)
					told = append(told, api.Errno(100*n)+e)
				}
			}
		}
		return filesOf(d), told
	}
	plain, want := run(func(*wal.Log) {})
	files, told := run(func(l *wal.Log) {
		for _, w := range noWorkers() {
			is(t, "Add", l.Add(w, small(999, 0, 1)), api.ErrWorker)
			is(t, "Flush", l.Flush(w), api.ErrWorker)
			l.Waiting(w)
		}
		is(t, "Add", l.Add(0, entry(999, 0)), api.ErrLog)
		is(t, "Add", l.Add(1, sized(999, 0, longest+1)), api.ErrLong)
		is(t, "Add", l.Add(1, small(1, 0, 1)), api.ErrOlder)
		is(t, "Mark", l.Mark(1), api.ErrRange)
		is(t, "Mark", l.Mark(api.MaxEpoch+1), api.ErrRange)
		if n, e := l.Trim(999); n != 0 || e != api.ErrRange {
			t.Error(n, e)
		}
		if n, _ := l.Waiting(0); n > 0 {
			is(t, "Mark", l.Mark(999), api.ErrLog)
		}
	})
	if !slices.Equal(told, want) {
		t.Errorf("%v, not %v", told, want)
	}
	holds(t, "refused calls", laid(t, files), plain)
	if len(want) != 6*9*3 || strings.Count(brief(plain), "log.") == 0 {
		t.Error("nothing was done:", want)
	}
}
