package recover_test

import (
	"cmp"
	"fmt"
	"slices"
	"testing"

	"hopper/api"
	"hopper/ckpt"
	"hopper/disk"
	back "hopper/recover"
	"hopper/wal"
)

// 20.3: whatever a crash tears, what comes back is the state of an epoch that was durable, or of the checkpoint.

// every and ends say which draws are taken of a tail of so many bytes.

func every(draw, tail int) bool {
	return tail < 1000 || ends(draw, tail) || draw < 3 || draw > tail-3
}

func ends(draw, tail int) bool { return draw == 0 || draw == tail/2 || draw == tail }

// torn are the files behind so many changes of Start and a crash that leaves so many bytes of what was not safe.
func torn(s *starting, changes, draw int) map[string]string {
	x := s.steps[changes]
	if x.name == "" {
		return x.files
	}
	return with(x.files, x.name, x.files[x.name][:x.safe+draw])
}

// tears calls do with a disk on which Start crashed at each of its changes, and, of all that may be torn then, with the draws that are taken; and with one on which it did not. It holds what files there are.
func tears(t *testing.T, what string, files map[string]string, workers int, taken func(draw, tail int) bool, do func(d *disk.Disk, changes int)) {
	t.Helper()
	want := modelStart(files, workers)
	for fuse := range want.changes() + 1 {
		x := want.steps[fuse]
		tail := len(x.files[x.name]) - x.safe
		for draw := range tail + 1 {
			if !taken(draw, tail) {
				continue
			}
			d := laid(t, files)
			d.Fuse(fuse)
			if got, _ := started(t, what, d, workers); fuse < want.changes() && got.code != api.ErrDown {
				t.Fatalf("%s: behind %d changes: %s", what, fuse, brief(got))
			}
			d.Crash([]int{draw, -1, -1})
			holds(t, fmt.Sprint(what, " behind ", fuse, " changes"), d, torn(want, fuse, draw))
			do(d, fuse)
		}
	}
}

// same fails when a disk holds something else, also behind another crash.
func same(t *testing.T, what string, d *disk.Disk, want told) {
	t.Helper()
	if got := readOf(t, d); got != want {
		t.Errorf("%s: %s, not %s", what, brief(got), brief(want))
	}
	files := filesOf(d)
	d.Crash([]int{5, 7})
	holds(t, "another crash: "+what, d, files)
}

func TestCrashAnywhereInStart(t *testing.T) {
	for what, files := range disks() {
		t.Run(what, func(t *testing.T) {
			t.Parallel()
			want := modelRead(files).told()
			taken := every
			if what == severalParts {
				taken = ends
			}
			tears(t, what, files, 2, taken, func(d *disk.Disk, changes int) {
				at := fmt.Sprint(what, ", behind ", changes, " changes")
				same(t, at, d, want)
				if got, _ := started(t, at, d, 3); got != want {
					t.Errorf("%s: started again: %s, not %s", at, brief(got), brief(want))
				}
				same(t, "started again: "+at, d, want)
			})
		})
	}
}

// As often as it crashes, wherever, it is the same.
func TestCrashBehindACrash(t *testing.T) {
	for what, files := range disks() {
		if what == severalParts {
			continue
		}
		t.Run(what, func(t *testing.T) {
			t.Parallel()
			want := modelRead(files).told()
			tears(t, what, files, 2, ends, func(d *disk.Disk, _ int) {
				tears(t, "again: "+what, filesOf(d), 1, ends, func(d *disk.Disk, _ int) {
					same(t, "twice: "+what, d, want)
					d, _ = starts(t, "at last: "+what, filesOf(d), 1)
					same(t, "at last: "+what, d, want)
				})
			})
		})
	}
}

func TestCrashManyTimes(t *testing.T) {
	t.Parallel()
	for what, files := range disks() {
		d := laid(t, files)
		want := modelRead(files).told()
		for n := range 60 {
			d.Fuse(n % 23)
			started(t, what, d, 1+n%3)
			d.Crash([]int{n, -n, 3 * n})
			same(t, fmt.Sprint(what, " ", n), d, want)
		}
	}
}

// What had been written and did not count ahead of a crash never counts, whichever epochs come then.
func TestWhatDidNotCountNeverDoes(t *testing.T) {
	t.Parallel()
	var late []api.Entry
	for epoch := 4; epoch < 14; epoch++ {
		late = append(late, small(epoch, 5, int64(100+epoch)), away(epoch, 6, 1))
	}
	for _, of := range []int{2, 3, 5} {
		files := both(checkpoint(0, numbers(1, 2), of), map[string]string{"epoch": marked(3), "log.0.0": logged(small(3, 0, 3)), "log.1.0": logged(late...)})
		held := modelRead(files)
		tears(t, "late", files, 2, ends, func(d *disk.Disk, _ int) {
			_, l := started(t, "again", d, 1)
			rows := held.tables[0].rows
			for n := range 10 {
				epoch := held.epoch + 1 + n
				is(t, "Add", l.Add(0, small(epoch, 0, int64(1000+n))), api.OK)
				is(t, "Flush", l.Flush(0), api.OK)
				is(t, "Mark", l.Mark(epoch), api.OK)
				rows = append(slices.Clone(rows), row{num(int64(1000 + n))})
				tells(t, fmt.Sprint("of ", of, ", up to ", epoch), d, []modelTable{{plain("t"), rows}}, epoch)
			}
		})
	}
}

// life is what was done behind one Start, up to its end or to where the disk went down.
type life struct {
	t       *testing.T
	d       *disk.Disk
	l       *wal.Log
	base    []modelTable
	added   []api.Entry // all, also those of older lives that count
	epoch   int         // up to which all lasts for sure
	allowed []int       // other epochs that may be told: of calls that went down
	down    bool
}

type act func(x *life)

// went notes whether the disk has gone down by a call; nothing else may be refused.
func (x *life) went(what string, e api.Errno) bool {
	x.t.Helper()
	if e == api.ErrDown {
		x.down = true
	} else {
		is(x.t, what, e, api.OK)
	}
	return e == api.OK
}

func add(w int, y api.Entry) act {
	return func(x *life) {
		if x.went("Add", x.l.Add(w, y)) {
			x.added = append(x.added, y)
		}
	}
}

func flush(w int) act { return func(x *life) { x.went("Flush", x.l.Flush(w)) } }

func mark(epoch int) act {
	return func(x *life) {
		if x.went("Mark", x.l.Mark(epoch)) {
			x.epoch = epoch
		} else {
			x.allowed = append(x.allowed, epoch)
		}
	}
}

func rotate(x *life) {
	_, e := x.l.Rotate()
	x.went("Rotate", e)
}

// save writes a checkpoint of an epoch, of which all is there.
func save(epoch int) act {
	return func(x *life) {
		if _, e := ckpt.Write(x.d, dataOf(x.t, x.at(epoch)), epoch); x.went("Write", e) {
			x.epoch = max(x.epoch, epoch)
		} else {
			x.allowed = append(x.allowed, epoch)
		}
	}
}

// at is the state of an epoch.
func (x *life) at(epoch int) []modelTable {
	var out []modelTable
	for _, y := range x.base {
		out = append(out, modelTable{y.schema, slices.Clone(y.rows)})
	}
	list := slices.Clone(x.added)
	slices.SortFunc(list, func(a, b api.Entry) int { return cmp.Compare(a.Tid, b.Tid) })
	for _, y := range list {
		for _, w := range y.Writes {
			if epochOf(y) <= epoch && !modelWrite(out, w) {
				x.t.Fatal("a write that does not fit:", brief(w))
			}
		}
	}
	for _, y := range out {
		slices.SortFunc(y.rows, func(a, b row) int { return cmp.Compare(y.key(a), y.key(b)) })
	}
	return out
}

// live starts, and does what the acts say, while the disk is up.
func live(t *testing.T, d *disk.Disk, fuse int, was *life, acts func(epoch int) []act) *life {
	t.Helper()
	x := &life{t: t, d: d, base: was.base, added: slices.Clone(was.added), epoch: was.epoch}
	d.Fuse(fuse)
	data, l, epoch, e := back.Start(d, 2)
	if !x.went("Start", e) {
		return x
	}
	if epoch != x.epoch || stateOf(t, data) != plainText(x.at(epoch)) {
		t.Fatalf("Start: %d, not %d: %s", epoch, x.epoch, brief(stateOf(t, data)))
	}
	x.l = l
	for _, do := range acts(epoch) {
		if do(x); x.down {
			break
		}
	}
	return x
}

// comesBack holds what is told behind a crash, and answers what the next life begins with: of what was added all up to the epoch that is told.
func (x *life) comesBack() *life {
	x.t.Helper()
	got := readOf(x.t, x.d)
	if got.code != api.OK || got.epoch != x.epoch && !slices.Contains(x.allowed, got.epoch) {
		x.t.Fatalf("%s, not of %d or %v", brief(got), x.epoch, x.allowed)
	}
	if want := plainText(x.at(got.epoch)); got.state != want {
		x.t.Fatalf("of the epoch %d: %s, not %s", got.epoch, brief(got.state), brief(want))
	}
	added := slices.DeleteFunc(slices.Clone(x.added), func(y api.Entry) bool { return epochOf(y) > got.epoch })
	return &life{base: x.base, added: added, epoch: got.epoch}
}

// tails are how many bytes of each file are not safe, by names. It crashes the disk.
func tails(d *disk.Disk) (list []int) {
	before := filesOf(d)
	d.Crash(slices.Repeat([]int{-1}, api.MaxFiles))
	for _, name := range d.Names() {
		s, _ := d.Read(name)
		if tail := len(before[name]) - len(s); tail > 0 {
			list = append(list, tail)
		}
	}
	return list
}

// anywhere calls do with what comes of a life that crashed at each of its changes, however it is torn.
func anywhere(t *testing.T, files map[string]string, was *life, acts func(epoch int) []act, taken func(draw, tail int) bool, do func(x *life, down bool)) {
	t.Helper()
	for fuse := 0; ; fuse++ {
		x := live(t, laid(t, files), fuse, was, acts)
		tail := 0
		if list := tails(x.d); len(list) > 0 {
			tail = list[0]
		}
		for draw := range tail + 1 {
			if !taken(draw, tail) {
				continue
			}
			y := live(t, laid(t, files), fuse, was, acts)
			y.d.Crash([]int{draw, -1})
			do(y, x.down)
		}
		if !x.down {
			return
		}
	}
}

// acts are those of one life behind an epoch: entries of four epochs, of which two are marked, and one is saved ahead of that.
func acts(n int64) func(epoch int) []act {
	return func(epoch int) []act {
		swap := entry(epoch+2, 1, put("u", 1, num(1), txt(fmt.Sprint("new", n))), put("u", 1, num(2+n), txt("x")), gone("u", num(1+n)))
		return []act{
			add(0, small(epoch+1, 0, 10*n)), add(1, away(epoch+1, 1, 10*n-9)), flush(0), flush(1), mark(epoch + 1),
			add(1, swap), add(0, small(epoch+2, 2, 10*n+1)), flush(1), rotate, flush(0), save(epoch + 2), mark(epoch + 2),
			add(0, small(epoch+3, 0, 10*n+2)), add(0, away(epoch+4, 0, 10*n)), flush(0), mark(epoch + 3),
		}
	}
}

func first() (map[string]string, *life) {
	base := []modelTable{{plain("t"), rowsOf(1, 2)}, {example("u", true), []row{{num(1), txt("x")}}}}
	return checkpoint(0, base, 2), &life{base: base, epoch: 2}
}

func TestCrashAnywhereInALife(t *testing.T) {
	t.Parallel()
	files, was := first()
	seen := map[int]int{}
	anywhere(t, files, was, acts(1), every, func(x *life, down bool) {
		next := x.comesBack()
		seen[next.epoch]++
		if !down && next.epoch != 5 {
			t.Error("all was marked, and it tells", next.epoch)
		}
	})
	for _, epoch := range []int{2, 3, 4, 5} {
		if seen[epoch] == 0 {
			t.Error("never told:", epoch, seen)
		}
	}
}

// A crash anywhere in a life behind a life that crashed anywhere.
func TestCrashAnywhereInASecondLife(t *testing.T) {
	t.Parallel()
	files, was := first()
	anywhere(t, files, was, acts(1), ends, func(x *life, _ bool) {
		next := x.comesBack()
		left := filesOf(x.d)
		anywhere(t, left, next, acts(2), ends, func(y *life, down bool) {
			again := y.comesBack()
			if again.epoch < next.epoch || !down && again.epoch != next.epoch+3 {
				t.Error("behind the epoch", next.epoch, "it tells", again.epoch)
			}
		})
	})
}
