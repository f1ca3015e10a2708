package wal_test

import (
	"maps"
	"slices"
	"testing"

	"hopper/api"
	"hopper/disk"
	"hopper/wal"
)

// 18.6: whatever a crash tears, all up to an epoch that was marked is told, and nothing else.

// life is what was done with one log, up to its end or to where its disk went down.
type life struct {
	t       *testing.T
	d       *disk.Disk
	l       *wal.Log
	added   []api.Entry
	durable int // the last one that was marked
	tried   int // what a Mark that went down was to mark; else the same as durable
	down    bool
}

type act func(x *life)

// went notes whether the disk has gone down by a call; nothing else may be refused.
func (x *life) went(what string, e api.Errno) bool {
	x.t.Helper()
	if e == api.ErrDown {
		x.down = true
	} else {
		is(x.t, what, e, api.OK)
	}
	return e == api.OK
}

func add(w int, list ...api.Entry) act {
	return func(x *life) {
		for _, y := range list {
			if x.went("Add", x.l.Add(w, y)) {
				x.added = append(x.added, y)
			}
		}
	}
}

func flush(w int) act {
	return func(x *life) { x.went("Flush", x.l.Flush(w)) }
}

func mark(epoch int) act {
	return func(x *life) {
		x.tried = epoch
		if x.went("Mark", x.l.Mark(epoch)) {
			x.durable = epoch
		}
	}
}

func rotate(x *life) { generation(x.t, x.l) }

func trim(below int) act {
	return func(x *life) {
		_, e := x.l.Trim(below)
		x.went("Trim", e)
	}
}

// live opens a log, and does what the acts say, while the disk is up.
func live(t *testing.T, d *disk.Disk, fuse, workers int, acts []act) *life {
	t.Helper()
	x := &life{t: t, d: d}
	_, x.durable, _ = wal.Load(d)
	x.tried = x.durable
	if fuse >= 0 {
		d.Fuse(fuse)
	}
	var e api.Errno
	if x.l, e = wal.Open(d, workers); !x.went("Open", e) {
		return x
	}
	for _, do := range acts {
		if do(x); x.down {
			break
		}
	}
	return x
}

// upTo are the entries of epochs that are at most this one, in the order of Tids.
func upTo(epoch int, list []api.Entry) []api.Entry {
	list = slices.DeleteFunc(slices.Clone(list), func(x api.Entry) bool { return epochOf(x) > epoch })
	slices.SortFunc(list, func(a, b api.Entry) int {
		if a.Tid < b.Tid {
			return -1
		}
		return 1
	})
	return list
}

// tells holds what Load tells behind a crash: of the entries just those up to one of the two epochs. That one is told.
func tells(t *testing.T, d *disk.Disk, durable, tried int, added []api.Entry) int {
	t.Helper()
	list, n, e := wal.Load(d)
	if e != api.OK || n != durable && n != tried {
		t.Fatalf("Load: %d, %d, not %d or %d", n, e, durable, tried)
	}
	if want := upTo(n, added); !sameEntries(list, want) {
		t.Fatalf("up to %d: %s, not %s", n, brief(list), brief(want))
	}
	return n
}

// first is a life's acts: entries of two workers and four epochs, in two generations.
func first() []act {
	return []act{
		add(0, small(1, 0, 1)), add(1, small(1, 1, 2)), flush(0), flush(1), mark(1),
		add(0, small(2, 0, 3), small(2, 1, 4)), add(1, small(3, 0, 5)), flush(0), mark(2), rotate,
		flush(1), add(0, small(3, 1, 6), small(4, 0, 7)), flush(0), mark(3),
		add(1, small(5, 1, 8), sixth()), flush(1), add(0, small(5, 2, 9)), flush(0), mark(6),
	}
}

// sixth is of the epoch 6, and has writes with values of all kinds.
func sixth() api.Entry {
	x := all()
	x.Tid = tidOf(6, 3)
	return x
}

// tails are how many bytes of each file are not safe, by names. It crashes the disk.
func tails(d *disk.Disk) (list []int) {
	before := filesOf(d)
	d.Crash(slices.Repeat([]int{-1}, api.MaxFiles))
	for _, name := range d.Names() {
		s, _ := d.Read(name)
		if tail := len(before[name]) - len(s); tail > 0 {
			list = append(list, tail)
		}
	}
	return list
}

// every and few say which draws are taken of a tail of so many bytes; few takes its ends, and some between.

func every(draw, tail int) bool { return true }

func few(draw, tail int) bool { return draw < 2 || draw > tail-2 || draw%37 == 5 && tail < 1000 }

// tears calls do with a disk that crashed with each fuse within the life that make leads, and, of all that may be torn then, with the draws that are taken.
func tears(t *testing.T, make func(fuse int) *life, taken func(draw, tail int) bool, do func(x *life)) {
	t.Helper()
	for fuse := 0; ; fuse++ {
		x := make(fuse)
		list := tails(x.d)
		if len(list) > 1 {
			t.Fatal("more than one file is written at a time:", list)
		}
		draws := []int{-1}
		for _, tail := range list {
			for draw := range tail + 1 {
				if taken(draw, tail) {
					draws = append(draws, draw)
				}
			}
		}
		for _, draw := range draws {
			y := make(fuse)
			y.d.Crash([]int{draw})
			do(y)
		}
		if !x.down {
			return
		}
	}
}

func TestCrashAnywhere(t *testing.T) {
	told := map[int]int{}
	tears(t, func(fuse int) *life { return live(t, disk.New(), fuse, 2, first()) }, every, func(x *life) {
		n := tells(t, x.d, x.durable, x.tried, x.added)
		told[n]++
		if !x.down && n != 6 {
			t.Error("all was marked, and it tells", n)
		}
		// Behind another crash, whatever is drawn, it is the same.
		files := filesOf(x.d)
		x.d.Crash([]int{5, 7})
		holds(t, "another crash", x.d, files)
		tells(t, x.d, n, n, x.added)
	})
	for _, n := range []int{0, 1, 2, 3, 6} {
		if told[n] == 0 {
			t.Error("never told:", n, told)
		}
	}
}

// A crash in Open behind a crash tells the same, however often.
func TestCrashInOpen(t *testing.T) {
	tears(t, func(fuse int) *life { return live(t, disk.New(), fuse, 2, first()) }, few, func(x *life) {
		n := tells(t, x.d, x.durable, x.tried, x.added)
		files := filesOf(x.d)
		tears(t, func(fuse int) *life { return live(t, laid(t, files), fuse, 3, nil) }, every, func(y *life) {
			tells(t, y.d, n, n, x.added)
			again := filesOf(y.d)
			tears(t, func(fuse int) *life { return live(t, laid(t, again), fuse, 1, nil) }, few, func(z *life) {
				tells(t, z.d, n, n, x.added)
			})
		})
	})
}

// second is a life's acts behind a crash: epochs and sequences that are none of the first one's.
func second() []act {
	return []act{
		add(0, small(7, 10, 21), small(7, 11, 22)), flush(0), mark(7),
		add(2, small(8, 10, 23)), rotate, flush(2), add(1, small(9, 10, 24)), flush(1), mark(8), mark(9),
	}
}

// survivors are all entries that a disk has, whatever is durable.
func survivors(t *testing.T, d *disk.Disk) []api.Entry {
	t.Helper()
	list, _, e := modelLoad(with(filesOf(d), "epoch", marked(api.MaxEpoch)))
	is(t, "survivors", e, api.OK)
	return list
}

// Two lives, and a crash anywhere in each: behind the second one, what was added in it up to what is durable, and of the first one what had been durable, and what else of it the first crash has left.
func TestCrashInASecondLife(t *testing.T) {
	tears(t, func(fuse int) *life { return live(t, disk.New(), fuse, 2, first()) }, few, func(x *life) {
		n := tells(t, x.d, x.durable, x.tried, x.added)
		files, left := filesOf(x.d), survivors(t, x.d)
		tears(t, func(fuse int) *life { return live(t, laid(t, files), fuse, 3, second()) }, few, func(y *life) {
			durable := tells(t, y.d, y.durable, y.tried, slices.Concat(left, y.added))
			if durable < n {
				t.Error("the durable epoch has fallen:", n, durable)
			}
			y.d.Crash(nil)
			tells(t, y.d, durable, durable, slices.Concat(left, y.added))
		})
	})
}

// As a recovery does: what the first life has left is trimmed ahead of anything new, so that of it nothing comes back.
func TestCrashBehindTrim(t *testing.T) {
	tears(t, func(fuse int) *life { return live(t, disk.New(), fuse, 2, first()) }, few, func(x *life) {
		files := filesOf(x.d)
		next := 0
		for name := range files {
			next = max(next, generationIn(name)+1)
		}
		acts := append([]act{trim(next - 1)}, second()...)
		tears(t, func(fuse int) *life { return live(t, laid(t, files), fuse, 3, acts) }, few, func(y *life) {
			for _, name := range y.d.Names() {
				if g := generationIn(name); len(y.added) > 0 && 0 <= g && g < next {
					t.Error("a file was not trimmed:", name)
				}
			}
			if len(y.added) > 0 {
				tells(t, y.d, y.durable, y.tried, y.added)
				return
			}
			// Trim was torn itself, or had nothing behind it: whole files are gone or there.
			for _, name := range y.d.Names() {
				if s, _ := y.d.Read(name); generationIn(name) >= 0 && s != files[name] {
					t.Error("a file has changed:", name)
				}
			}
			tells(t, y.d, y.durable, y.tried, survivors(t, y.d))
		})
	})
}

// A flush of many frames, some of them long, torn about their ends.
func TestCrashInALongFlush(t *testing.T) {
	long := []api.Entry{sized(2, 0, 3000), sized(2, 1, 50), sized(3, 0, 60000), sized(3, 1, 700)}
	acts := []act{add(0, small(1, 0, 1)), flush(0), mark(1), add(0, long...), add(1, sized(3, 2, longest)), flush(0), mark(2), flush(1), mark(3)}
	ends := map[int]bool{}
	for many := range long {
		end := len(logged(long[:many]...))
		for _, near := range []int{-5, -1, 0, 1, 4, 5} {
			ends[end+near] = true
		}
	}
	taken := func(draw, tail int) bool { return ends[draw] || few(draw, tail) }
	tears(t, func(fuse int) *life { return live(t, disk.New(), fuse, 2, acts) }, taken, func(x *life) {
		tells(t, x.d, x.durable, x.tried, x.added)
	})
}

// A byte that is another one in what was synced is found, as long as it is no length's.
func TestBytesThatAreOthers(t *testing.T) {
	x := live(t, disk.New(), -1, 2, first())
	x.d.Crash(nil)
	files := filesOf(x.d)
	if len(files) != 5 {
		t.Fatal(slices.Sorted(maps.Keys(files)))
	}
	many := 0
	for name, b := range files {
		for at := 0; at < len(b); {
			size := 8 + int(b[at]) + int(b[at+1])<<8
			for place := at + 4; place < at+size; place++ {
				for other := range 256 {
					if byte(other) == b[place] {
						continue
					}
					many++
					spoilt := []byte(b)
					spoilt[place] = byte(other)
					d := laid(t, with(files, name, string(spoilt)))
					if list, n, e := wal.Load(d); list != nil || n != 0 || e != api.ErrCorrupt {
						t.Fatalf("%s: the byte %d is %d: %s %d %d", name, place, other, brief(list), n, e)
					}
					if l, e := wal.Open(d, 2); l != nil || e != api.ErrCorrupt {
						t.Fatalf("%s: the byte %d is %d: Open: %d", name, place, other, e)
					}
				}
			}
			at += size
		}
	}
	if many < 100000 {
		t.Error("few bytes:", many)
	}
}
