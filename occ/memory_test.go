package occ_test

import (
	"fmt"
	"slices"
	"strings"
	"testing"
	"unsafe"

	"hopper/api"
)

// R4: what is handed in is neither changed nor kept, and what is told is new.

// spoil writes over a list, and over its spare room.
func spoil(list row) {
	list = list[:cap(list)]
	for i := range list {
		list[i] = api.Value{Kind: 77, N: 77, S: "spoilt"}
	}
}

func spoilRows(list []row) {
	for _, r := range list {
		spoil(r)
	}
	list = list[:cap(list)]
	for i := range list {
		list[i] = row{txt("spoilt")}
	}
}

func spoilResults(list []api.Result) {
	for _, r := range list {
		spoilRows(r.Rows)
	}
	list = list[:cap(list)]
	for i := range list {
		list[i] = api.Result{Code: 77}
	}
}

func spoilOps(list []api.Op) {
	for _, op := range list {
		spoil(op.Key)
		spoil(op.To)
		spoil(op.Row)
	}
	list = list[:cap(list)]
	for i := range list {
		list[i] = api.Op{Kind: 77}
	}
}

func spoilEntries(list []api.Entry) {
	for _, x := range list {
		for _, w := range x.Writes {
			spoil(w.Row)
		}
		writes := x.Writes[:cap(x.Writes)]
		for i := range writes {
			writes[i] = api.Write{Table: "spoilt"}
		}
	}
	list = list[:cap(list)]
	for i := range list {
		list[i] = api.Entry{Tid: 77}
	}
}

func allKinds() []api.Op {
	return []api.Op{
		put("w", num(1), txt("x"), num(7), txt("s"), num(4)), insert("w", num(2), txt("y"), num(8), txt("s"), num(5)), put("w", num(3), txt("z"), null(), txt("r"), null()),
		get("w", num(1), txt("x")), scanFrom("w", row{num(1)}, row{num(9), txt("p")}, 5), find("w", "i", txt("s")),
		add("w", 4, 3, num(1), txt("x")), del("w", num(3), txt("z")), scan("w"), find("w", "k", num(1)),
	}
}

func text(x any) string { return fmt.Sprint(x) }

func TestOpsAreNeitherChangedNorKept(t *testing.T) {
	plain := newScript(t, 1, wide())
	want := text(plain.done(0, allKinds()...))
	plain.verify()
	x := newStore(t, 1, wide())
	ops := allKinds()
	for i := range ops {
		// Spare room, of which nothing is read or written.
		ops[i].Key = append(make(row, 0, 9), ops[i].Key...)
		ops[i].Row = append(make(row, 0, 9), ops[i].Row...)
	}
	ops = append(make([]api.Op, 0, 2*len(ops)), ops...)
	before, spare := text(ops), text(ops[:cap(ops)][len(ops):])
	x.Begin(0, ops)
	if text(ops) != before || text(ops[:cap(ops)][len(ops):]) != spare {
		t.Error("Begin has changed its batch")
	}
	spoilOps(ops)
	for {
		done, o, _ := x.Step(0)
		if !done {
			continue
		}
		if text(o.Results) != want {
			t.Errorf("%s, not %s", brief(o.Results), brief(want))
		}
		break
	}
	a, _ := x.AsOf(1)
	b, _ := plain.s.AsOf(1)
	if dump(a) != dump(b) {
		t.Errorf("%s, not %s", dump(a), dump(b))
	}
	// What the batch was given stays as it is, whatever the transaction does.
	ops = allKinds()
	before = text(ops)
	x.Begin(0, ops)
	for x.Working() > 0 {
		x.Step(0)
	}
	if text(ops) != before {
		t.Error("Step has changed a batch")
	}
}

func TestSchemasAreNeitherChangedNorKept(t *testing.T) {
	y := wide()
	s := newStore(t, 1, y)
	if text(y) != text(wide()) {
		t.Error("Create has changed its schema")
	}
	before := state(s)
	for i := range y.Columns {
		y.Columns[i] = api.Column{Name: "spoilt", Kind: -7}
	}
	for i := range y.Indexes {
		clear(y.Indexes[i].Columns)
		y.Indexes[i] = api.Index{}
	}
	same(t, s, before)
	s.Begin(0, append(allKinds(), put("w", num(5), txt("x"), num(8), null(), null())))
	for done := false; !done; {
		var o api.Outcome
		if done, o, _ = s.Step(0); done && (o.Committed || len(o.Results) != 11 || o.Results[10].Code != api.ErrUnique) {
			t.Error(brief(o))
		}
	}
}

// Writing over what was told changes nothing.
func TestWhatIsToldIsNew(t *testing.T) {
	x := newScript(t, 2, wide())
	o := x.do(0, allKinds()...)
	kept := api.Outcome{Results: copied(o.Results)}
	d, _ := x.s.AsOf(1)
	want := dump(d)
	spoilResults(o.Results)
	x.begun[0].out.Results = kept.Results
	if d, _ := x.s.AsOf(1); dump(d) != want {
		t.Error("writing over results changes rows")
	}
	list, _ := d.Rows("w")
	spoilRows(list)
	if d, _ := x.s.AsOf(1); dump(d) != want {
		t.Error("writing over rows changes rows")
	}
	other := x.s.Entries()
	spoilEntries(other)
	if d, _ := x.s.AsOf(1); dump(d) != want {
		t.Error("writing over entries changes rows")
	}
	if text(kept.Results) != text(x.begun[0].out.Results) {
		t.Error("writing over entries changes results")
	}
	// The rows are found by all indexes, as ever.
	r := x.done(1, find("w", "i", txt("s")), find("w", "u", num(8)), get("w", num(1), txt("x")), scan("w"))
	if len(r[0].Rows) != 2 || len(r[1].Rows) != 1 || !sameRows(r[2].Rows, []row{{num(1), txt("x"), num(7), txt("s"), num(7)}}) || len(r[3].Rows) != 2 {
		t.Error(brief(r))
	}
	if more := x.s.Entries(); len(more) != 0 {
		t.Error(more)
	}
}

func copied(list []api.Result) []api.Result {
	out := slices.Clone(list)
	for i, r := range out {
		out[i].Rows = slices.Clone(r.Rows)
		for j := range r.Rows {
			out[i].Rows[j] = slices.Clone(r.Rows[j])
		}
	}
	return out
}

// What was told stays as it is, whatever is done then.
func TestWhatWasToldStays(t *testing.T) {
	x := newScript(t, 1, wide())
	o := x.do(0, allKinds()...)
	entries := x.entries()
	d, _ := x.s.AsOf(1)
	before := text(o) + text(entries) + dump(d)
	x.done(0, del("w", num(1), txt("x")), add("w", 4, 9, num(2), txt("y")), put("w", num(4), txt("x"), num(1), txt("s"), null()))
	x.s.Advance()
	x.done(0, put("w", num(2), txt("y"), num(1000), null(), null()), del("w", num(4), txt("x")))
	x.entries()
	x.drop("w")
	if text(o)+text(entries)+dump(d) != before {
		t.Error("what was told has changed")
	}
	x.verify()
}

// area is a piece of memory. What lies there is kept, so that the memory is not given to another meanwhile.
type area struct {
	what       string
	kept       any
	begin, end uintptr
}

func textArea(what, s string) area {
	p := uintptr(unsafe.Pointer(unsafe.StringData(s)))
	return area{what, s, p, p + uintptr(len(s))}
}

// listArea has a list's spare room, too.
func listArea[T any](what string, list []T) area {
	var member T
	p := uintptr(unsafe.Pointer(unsafe.SliceData(list)))
	return area{what, list, p, p + uintptr(cap(list))*unsafe.Sizeof(member)}
}

func rowAreas(what string, list row) []area {
	out := []area{listArea(what, list)}
	for i, v := range list {
		out = append(out, textArea(fmt.Sprint(what, " text ", i), v.S))
	}
	return out
}

func resultAreas(what string, list []api.Result) []area {
	out := []area{listArea(what, list)}
	for i, r := range list {
		out = append(out, listArea(fmt.Sprint(what, " rows ", i), r.Rows))
		for j, x := range r.Rows {
			out = append(out, rowAreas(fmt.Sprint(what, " result ", i, " row ", j), x)...)
		}
	}
	return out
}

func entryAreas(what string, list []api.Entry) []area {
	out := []area{listArea(what, list)}
	for i, x := range list {
		out = append(out, listArea(fmt.Sprint(what, " writes ", i), x.Writes))
		for j, w := range x.Writes {
			name := fmt.Sprint(what, " entry ", i, " write ", j)
			out = append(out, textArea(name+" table", w.Table), textArea(name+" key", w.Key))
			out = append(out, rowAreas(name, w.Row)...)
		}
	}
	return out
}

func dataAreas(what string, x *script, epoch int) []area {
	d, _ := x.s.AsOf(epoch)
	rows, _ := d.Rows("w")
	out := []area{listArea(what, rows)}
	for i, r := range rows {
		out = append(out, rowAreas(fmt.Sprint(what, " row ", i), r)...)
	}
	return out
}

// apart fails if two of these pieces of memory share any.
func apart(t *testing.T, areas []area) {
	t.Helper()
	for i, a := range areas {
		for _, b := range areas[:i] {
			if a.begin < b.end && b.begin < a.end {
				t.Errorf("%s and %s share memory: %s, %s", a.what, b.what, brief(a.kept), brief(b.kept))
			}
		}
	}
}

// No two lists of one answer share any memory, nor does one share any with another answer, or with what was handed in.
func TestAnswersAreApart(t *testing.T) {
	own := func(ops []api.Op) []api.Op {
		for i := range ops {
			for _, list := range []row{ops[i].Key, ops[i].To, ops[i].Row} {
				for j := range list {
					list[j].S = strings.Clone(list[j].S)
				}
			}
		}
		return ops
	}
	x := newScript(t, 2, wide())
	ops := own(allKinds())
	var areas []area
	for i, op := range ops {
		areas = append(areas, rowAreas(fmt.Sprint("key ", i), op.Key)...)
		areas = append(areas, rowAreas(fmt.Sprint("to ", i), op.To)...)
		areas = append(areas, rowAreas(fmt.Sprint("row ", i), op.Row)...)
	}
	areas = append(areas, resultAreas("one", x.done(0, ops...))...)
	areas = append(areas, entryAreas("entries", x.entries())...)
	areas = append(areas, resultAreas("two", x.done(1, scan("w"), scan("w"), find("w", "i", txt("s")), get("w", num(1), txt("x")), put("w", num(1), txt("x"), null(), txt("t"), null())))...)
	areas = append(areas, resultAreas("three", x.do(1, scan("w"), scan("w"), get("u")).Results)...)
	areas = append(areas, entryAreas("more entries", x.entries())...)
	areas = append(areas, dataAreas("data", x, 1)...)
	areas = append(areas, dataAreas("more data", x, 1)...)
	apart(t, areas)
}
