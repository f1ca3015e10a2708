package ckpt_test

import (
	"fmt"
	"maps"
	"slices"
	"testing"

	"hopper/api"
	"hopper/ckpt"
	"hopper/disk"
)

// 19.3: whatever a crash tears, the older checkpoint is told, or the new one, whole.

// told is all that Read tells of a disk.
type told struct {
	state string
	epoch int
	code  api.Errno
}

func readOf(t *testing.T, d *disk.Disk) told {
	t.Helper()
	data, epoch, e := ckpt.Read(d)
	if e != api.OK {
		if data != nil || epoch != 0 {
			t.Error("beside an error:", data, epoch, e)
		}
		return told{code: e}
	}
	return told{stateOf(t, data), epoch, e}
}

// older is what the model tells of a disk.
func older(files map[string]string) told {
	tables, epoch, e := modelRead(files)
	if e != api.OK {
		return told{code: e}
	}
	return told{plainText(tables), epoch, e}
}

// tails are how many bytes of each file are not safe, by names. It crashes the disk.
func tails(d *disk.Disk) (list []int) {
	before := filesOf(d)
	d.Crash(slices.Repeat([]int{-1}, api.MaxFiles))
	for _, name := range d.Names() {
		s, _ := d.Read(name)
		if tail := len(before[name]) - len(s); tail > 0 {
			list = append(list, tail)
		}
	}
	return list
}

// every and few say which draws are taken of a tail of so many bytes; few takes its ends, and some between.

func every(draw, tail int) bool { return tail < 1000 || few(draw, tail) }

func few(draw, tail int) bool {
	return draw < 3 || draw > tail-3 || draw%37 == 5 && tail < 1000 || draw%9973 == 8
}

// tears calls do with a disk on which Write crashed at each of its changes, and, of all that may be torn then, with the draws that are taken; and with one on which it did not. It tells do how many changes were made, and what Write answered.
func tears(t *testing.T, files map[string]string, tables []modelTable, epoch int, taken func(draw, tail int) bool, do func(d *disk.Disk, changes int, e api.Errno)) {
	t.Helper()
	data := dataOf(t, tables)
	write := func(fuse int) (*disk.Disk, api.Errno) {
		d := laid(t, files)
		d.Fuse(fuse)
		n, e := ckpt.Write(d, data, epoch)
		if e != api.ErrDown && e != api.OK || e == api.ErrDown && n != 0 {
			t.Fatal("Write:", n, e)
		}
		return d, e
	}
	for fuse := 0; ; fuse++ {
		d, e := write(fuse)
		list := tails(d)
		if len(list) > 1 {
			t.Fatal("more than one file is written at a time:", list)
		}
		draws := []int{-1}
		for _, tail := range list {
			for draw := range tail + 1 {
				if taken(draw, tail) {
					draws = append(draws, draw)
				}
			}
		}
		for _, draw := range draws {
			d, e := write(fuse)
			d.Crash([]int{draw})
			do(d, fuse, e)
		}
		if e == api.OK {
			return
		}
	}
}

// published is behind how many changes the new manifest is there.
func published(files map[string]string, w *writing) int {
	for n, step := range w.steps {
		if step["manifest"] != files["manifest"] {
			return n + 1
		}
	}
	panic("never")
}

func TestCrashAnywhere(t *testing.T) {
	t.Parallel()
	for what, x := range cases() {
		was, now := older(x.files), told{plainText(x.tables), 7, api.OK}
		from := published(x.files, modelWrite(x.files, x.tables, 7))
		seen := map[string]int{}
		tears(t, x.files, x.tables, 7, every, func(d *disk.Disk, changes int, e api.Errno) {
			got := readOf(t, d)
			if want := map[bool]told{false: was, true: now}[changes >= from]; got != want {
				t.Errorf("%s: behind %d changes: %s, not %s", what, changes, brief(got), brief(want))
			}
			if e == api.OK && got != now {
				t.Errorf("%s: all was written, and it tells %s", what, brief(got))
			}
			seen[brief(got)]++
			// Another crash changes nothing, whatever is drawn.
			files := filesOf(d)
			d.Crash([]int{5, 7})
			holds(t, "another crash: "+what, d, files)
			// Another one can be written, and nothing is left of both.
			writes(t, "behind a crash: "+what, d, chapters(), 11)
			for _, name := range d.Names() {
				if _, there := x.files[name]; !there && name != "manifest" && numberIn(name) != numberOf(t, d) {
					t.Errorf("%s: %s is left", what, name)
				}
			}
		})
		if was != now && len(seen) != 2 {
			t.Errorf("%s: not both are told: %v", what, slices.Collect(maps.Keys(seen)))
		}
	}
}

// numberOf is the manifest's N.
func numberOf(t *testing.T, d *disk.Disk) int {
	t.Helper()
	s, _ := d.Read("manifest")
	for n := range 1000 {
		if s[4:12] == word(uint64(n)) {
			return n
		}
	}
	t.Fatal("a great number")
	return 0
}

// A crash in a Write behind a crash in another one: what the first has left is neither told nor in the way.
func TestCrashBehindACrash(t *testing.T) {
	t.Parallel()
	first := []modelTable{{plain("a"), []row{{num(1)}}}, {plain("b"), nil}}
	second := []modelTable{{example("a", true), []row{{num(1), txt("x")}, {num(2), null()}}}}
	for _, files := range []map[string]string{nil, checkpoint(modelBodies(chapters())...), {"manifest": manifest(0, 0, 0, 1), "manifest.new": "x"}} {
		tears(t, files, first, 7, few, func(d *disk.Disk, _ int, _ api.Errno) {
			left := filesOf(d)
			was, now := readOf(t, d), told{plainText(second), 8, api.OK}
			from := published(left, modelWrite(left, second, 8))
			tears(t, left, second, 8, few, func(d *disk.Disk, changes int, e api.Errno) {
				got := readOf(t, d)
				if want := map[bool]told{false: was, true: now}[changes >= from]; got != want {
					t.Errorf("behind %d changes: %s, not %s", changes, brief(got), brief(want))
				}
				writes(t, "behind two crashes", d, chapters(), 9)
			})
		})
	}
}

// As often as it crashes: what is read is written again, and is always the same.
func TestReadAndWrittenAgain(t *testing.T) {
	t.Parallel()
	d := disk.New()
	writes(t, "first", d, heavy(), 5)
	want := readOf(t, d)
	for fuse := range 20 {
		for _, draw := range []int{-1, 1000} {
			data, epoch, e := ckpt.Read(d)
			if e != api.OK {
				t.Fatal(e)
			}
			d.Fuse(fuse)
			ckpt.Write(d, data, epoch)
			d.Crash([]int{draw})
			if got := readOf(t, d); got != want {
				t.Fatalf("%d changes: %s", fuse, brief(got))
			}
		}
	}
}

// What is written is read: the same tables, rows, indexes and epoch; and that is written as the same bytes.
func TestWhatIsWrittenIsRead(t *testing.T) {
	for n, tables := range [][]modelTable{nil, chapters(), mixed(), heavy()} {
		d, again := disk.New(), disk.New()
		if _, e := ckpt.Write(d, dataOf(t, tables), n); e != api.OK {
			t.Fatal(e)
		}
		data, epoch, e := ckpt.Read(d)
		if e != api.OK || epoch != n || stateOf(t, data) != plainText(tables) {
			t.Error(n, epoch, e)
		}
		if _, e := ckpt.Write(again, data, epoch); e != api.OK {
			t.Fatal(e)
		}
		holds(t, "again", again, filesOf(d))
		// What was read are data as others are: they take batches, and refuse what clashes.
		is(t, "Create", data.Create(example("zzz", true)), api.OK)
		for _, x := range []struct {
			r    row
			done bool
		}{{row{num(1), txt("x")}, true}, {row{num(2), txt("x")}, false}, {row{num(2), txt("y")}, true}} {
			if _, done, e := data.Apply([]api.Op{{Kind: api.OPut, Table: "zzz", Row: x.r}}); done != x.done || e != api.OK {
				t.Error(x.r, done, e)
			}
		}
	}
	data := dataOf(t, mixed())
	d := disk.New()
	ckpt.Write(d, data, 1)
	data, _, _ = ckpt.Read(d)
	for _, op := range []api.Op{
		{Kind: api.OInsert, Table: "9z", Row: row{num(8), txt("x")}}, {Kind: api.OInsert, Table: "9z", Row: row{num(1), txt("q")}}, {Kind: api.OPut, Table: "9z", Row: row{num(3), txt("")}},
	} {
		if list, done, _ := data.Apply([]api.Op{op}); done {
			t.Error(fmt.Sprint("not refused: ", op.Row, list))
		}
	}
	list, done, e := data.Apply([]api.Op{{Kind: api.OFind, Table: "a", Index: "i", Key: row{txt("x")}, Limit: 9}, {Kind: api.OGet, Table: "9z", Key: row{num(3)}}})
	if !done || e != api.OK || rowsText(list[0].Rows) != rowsText([]row{{num(1), txt("x")}, {num(2), txt("x")}}) || rowsText(list[1].Rows) != rowsText([]row{{num(3), null()}}) {
		t.Error(list, done, e)
	}
}
