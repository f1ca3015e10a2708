package wal_test

import (
	"fmt"
	"slices"
	"testing"
	"unsafe"

	"hopper/api"
	"hopper/disk"
	"hopper/wal"
)

// R4: what is handed in is neither changed nor kept, and what is told is new.

// lent is a text whose bytes can be written over, as those of a text are not to be: who keeps it sees that.
func lent(s string) (string, func()) {
	b := []byte(s)
	return unsafe.String(unsafe.SliceData(b), len(b)), func() {
		for i := range b {
			b[i] = '#'
		}
	}
}

// lentEntry is all of an entry in memory of its own, with spare room in its lists, and what writes over all of it.
func lentEntry(x api.Entry) (api.Entry, func()) {
	var spoils []func()
	take := func(s string) string {
		own, spoil := lent(s)
		spoils = append(spoils, spoil)
		return own
	}
	own := api.Entry{Tid: x.Tid, Writes: make([]api.Write, 0, len(x.Writes)+2)}
	for _, w := range x.Writes {
		values := make(row, 0, len(w.Row)+2)
		for _, v := range w.Row {
			v.S = take(v.S)
			values = append(values, v)
		}
		values[len(values):cap(values)][0] = txt("spare")
		values[len(values):cap(values)][1] = api.Value{Kind: 77}
		spoils = append(spoils, func() { spoilRow(values) })
		own.Writes = append(own.Writes, api.Write{Table: take(w.Table), Key: take(w.Key), Gone: w.Gone, Row: values})
	}
	own.Writes[:cap(own.Writes)][len(own.Writes)] = put("spare", "spare", num(1))
	own.Writes[:cap(own.Writes)][len(own.Writes)+1] = api.Write{Gone: true, Row: badRows()[0]}
	return own, func() {
		for _, spoil := range spoils {
			spoil()
		}
		spoilWrites(own.Writes)
	}
}

func spoilRow(list row) {
	list = list[:cap(list)]
	for i := range list {
		list[i] = api.Value{Kind: 77, N: 77, S: "spoilt"}
	}
}

func spoilWrites(list []api.Write) {
	for _, w := range list {
		spoilRow(w.Row)
	}
	list = list[:cap(list)]
	for i := range list {
		list[i] = api.Write{Table: "spoilt", Gone: true, Row: row{num(7)}}
	}
}

func spoilEntries(list []api.Entry) {
	for _, x := range list {
		spoilWrites(x.Writes)
	}
	list = list[:cap(list)]
	for i := range list {
		list[i] = api.Entry{Tid: 77}
	}
}

// whole is an entry with all spare room, as text.
func whole(x api.Entry) string {
	writes := x.Writes[:cap(x.Writes)]
	out := fmt.Sprint(x.Tid, writes)
	for _, w := range writes {
		out += fmt.Sprint(w.Row[:cap(w.Row)])
	}
	return out
}

func TestEntriesAreNeitherChangedNorKept(t *testing.T) {
	d := disk.New()
	l := opened(t, d, 2)
	want := []api.Entry{small(1, 0, 5), all(), entry(3, 8, put("table", "key", txt("some text"), num(4), txt("more of it")), gone("table", "other"))}
	var spoils []func()
	for _, x := range want {
		own, spoil := lentEntry(x)
		before := whole(own)
		b, e := wal.Bytes(own)
		if b != plainBytes(x) || e != api.OK {
			t.Errorf("%s: %d", brief([]byte(b)), e)
		}
		is(t, "Add", l.Add(1, own), api.OK)
		is(t, "Add", l.Add(1, own), api.ErrOlder)
		is(t, "Add", l.Add(2, own), api.ErrWorker)
		if whole(own) != before {
			t.Error("an entry has changed:", whole(own), before)
		}
		spoils = append(spoils, func() {
			spoil()
			if b != plainBytes(x) {
				t.Error("bytes have changed:", brief([]byte(b)))
			}
		})
	}
	for _, spoil := range spoils {
		spoil()
	}
	is(t, "Flush", l.Flush(1), api.OK)
	is(t, "Mark", l.Mark(3), api.OK)
	holds(t, "what was added", d, map[string]string{"log.1.0": logged(want...), "epoch": marked(3)})
}

// Of entries that are refused nothing is changed or kept, either.
func TestRefusedEntriesAreNotChanged(t *testing.T) {
	l := opened(t, disk.New(), 1)
	long := put("t", "k", slices.Repeat(row{txt(most)}, 16)...)
	for _, x := range []api.Entry{entry(0, 0, gone("t", "k")), entry(1, 0, put("t", "k", badRows()[3]...)), entry(1, 0, put(most+"x", "k")), entry(1, 0, api.Write{Gone: true, Row: row{num(1)}}), entry(1, 0, long, put("t", "k", num(1)))} {
		own, _ := lentEntry(x)
		before := whole(own)
		_, e := wal.Bytes(own)
		if f := l.Add(0, own); f == api.OK || e != api.OK && e != f {
			t.Error(brief(x), e, f)
		}
		if whole(own) != before {
			t.Error("an entry has changed:", brief(x))
		}
	}
}

func TestBytesAreNotKept(t *testing.T) {
	for _, x := range []api.Entry{all(), small(1, 0, 5), entry(1, 0, put("table", "key", txt("a text"), txt("a text")), gone("table", "key"))} {
		b, spoil := lent(plainBytes(x))
		y, e := wal.Entry(b)
		spoil()
		if e != api.OK || plainBytes(y) != plainBytes(x) {
			t.Errorf("%s, not %s", brief(y), brief(x))
		}
	}
}

func TestWhatIsToldIsNew(t *testing.T) {
	want := []api.Entry{small(1, 0, 5), all(), entry(3, 8, put("t", "k", txt("x"), num(1)), gone("t", "l"), put("t", "m", txt("x")))}
	b := plainBytes(want[2])
	first, _ := wal.Entry(b)
	second, _ := wal.Entry(b)
	spoilEntries([]api.Entry{first})
	if plainBytes(second) != b {
		t.Error("writing over an entry changes another one")
	}
	d := disk.New()
	l := opened(t, d, 1)
	for _, x := range want {
		is(t, "Add", l.Add(0, x), api.OK)
	}
	is(t, "Flush", l.Flush(0), api.OK)
	is(t, "Mark", l.Mark(3), api.OK)
	kept, _, _ := wal.Load(d)
	for range 3 {
		list, _, _ := wal.Load(d)
		if !sameEntries(list, want) {
			t.Error(brief(list))
		}
		spoilEntries(list)
	}
	if !sameEntries(kept, want) {
		t.Error("writing over what Load told changes another answer")
	}
	is(t, "Add", l.Add(0, small(4, 0, 1)), api.OK)
	is(t, "Flush", l.Flush(0), api.OK)
	is(t, "Mark", l.Mark(4), api.OK)
	if !sameEntries(kept, want) {
		t.Error("what Load told changes with the log")
	}
	loads(t, "the log", d, 4, append(want, small(4, 0, 1))...)
}

// One list of one answer written over, with its spare room, leaves all others of it as they are.
func TestListsOfOneAnswerAreTheirOwn(t *testing.T) {
	x := entry(1, 0, put("t", "k", num(1), txt("x")), put("t", "k", num(1), txt("x")), put("t", "l"), gone("t", "m"), put("t", "k", txt("y")))
	files := map[string]string{"epoch": marked(1), "log.0.0": logged(x, x), "log.0.1": logged(x)}
	want := plainBytes(x)
	for i := range 3 {
		for j := range x.Writes {
			list, _, _ := wal.Load(laid(t, files))
			spoilRow(list[i].Writes[j].Row)
			list[i].Writes[j].Row = x.Writes[j].Row
			for at, y := range list {
				if plainBytes(y) != want {
					t.Errorf("the row %d of the entry %d is one of the entry %d, too", j, i, at)
				}
			}
		}
		list, _, _ := wal.Load(laid(t, files))
		clear(list[i].Writes[:cap(list[i].Writes)])
		list[i].Writes = x.Writes
		for at, y := range list {
			if plainBytes(y) != want {
				t.Errorf("the writes of the entry %d are those of the entry %d, too", i, at)
			}
		}
	}
}

// area is a piece of memory. What lies there is kept, so that the memory is not given to another meanwhile.
type area struct {
	what       string
	kept       any
	begin, end uintptr
}

func textArea(what, s string) area {
	p := uintptr(unsafe.Pointer(unsafe.StringData(s)))
	return area{what, s, p, p + uintptr(len(s))}
}

// listArea has a list's spare room, too.
func listArea[T any](what string, list []T) area {
	var member T
	p := uintptr(unsafe.Pointer(unsafe.SliceData(list)))
	return area{what, list, p, p + uintptr(cap(list))*unsafe.Sizeof(member)}
}

func entryAreas(what string, x api.Entry) []area {
	out := []area{listArea(what, x.Writes)}
	for i, w := range x.Writes {
		what := fmt.Sprint(what, " write ", i)
		out = append(out, textArea(what+" table", w.Table), textArea(what+" key", w.Key), listArea(what+" row", w.Row))
		for j, v := range w.Row {
			out = append(out, textArea(fmt.Sprint(what, " text ", j), v.S))
		}
	}
	return out
}

// apart fails if two of these pieces of memory share any.
func apart(t *testing.T, areas []area) {
	t.Helper()
	for i, a := range areas {
		for _, b := range areas[:i] {
			if a.begin < b.end && b.begin < a.end {
				t.Errorf("%s and %s share memory: %s, %s", a.what, b.what, brief(a.kept), brief(b.kept))
			}
		}
	}
}

// No two lists or texts of answers share any memory, nor does one share any with what was handed in.
func TestAnswersAreApart(t *testing.T) {
	plain := entry(1, 0, put("table", "key", txt("a text"), txt("a text"), num(1)), put("table", "key", txt("a text")), gone("table", "key"), put("table", "key"))
	x, _ := lentEntry(plain)
	areas := entryAreas("handed in", x)
	for n := range 3 {
		b, _ := wal.Bytes(x)
		areas = append(areas, textArea(fmt.Sprint("bytes ", n), b))
	}
	b := plainBytes(plain)
	areas = append(areas, textArea("bytes handed in", b))
	for n := range 3 {
		y, _ := wal.Entry(b)
		areas = append(areas, entryAreas(fmt.Sprint("entry ", n), y)...)
	}
	d := laid(t, map[string]string{"epoch": marked(1), "log.0.0": logged(plain, plain), "log.1.0": logged(plain)})
	for n := range 3 {
		list, _, _ := wal.Load(d)
		areas = append(areas, listArea(fmt.Sprint("told ", n), list))
		for i, y := range list {
			areas = append(areas, entryAreas(fmt.Sprint("told ", n, " entry ", i), y)...)
		}
	}
	apart(t, areas)
}
