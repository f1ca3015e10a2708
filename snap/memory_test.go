package snap_test

import (
	"fmt"
	"slices"
	"strings"
	"testing"
	"unsafe"

	"hopper/api"
)

// R4: what is handed in is neither changed nor kept, and what is told is new.

// spoil writes over a list, and over its spare room.
func spoil(list row) {
	list = list[:cap(list)]
	for i := range list {
		list[i] = api.Value{Kind: 77, N: 77, S: "spoilt"}
	}
}

func spoilResults(list []api.Result) {
	for _, r := range list {
		for _, x := range r.Rows {
			spoil(x)
		}
		rows := r.Rows[:cap(r.Rows)]
		for i := range rows {
			rows[i] = row{txt("spoilt")}
		}
	}
	list = list[:cap(list)]
	for i := range list {
		list[i] = api.Result{Code: 77}
	}
}

func spoilOps(list []api.Op) {
	for _, op := range list {
		spoil(op.Key)
		spoil(op.To)
		spoil(op.Row)
	}
	list = list[:cap(list)]
	for i := range list {
		list[i] = api.Op{Kind: 77}
	}
}

// roomy is a copy of a row with spare room, in which something lies.
func roomy(list row) row {
	own := append(make(row, 0, len(list)+3), list...)
	spare := own[len(own):cap(own)]
	for i := range spare {
		spare[i] = txt("spare")
	}
	return own
}

// questions asks for the same rows more than once, of both tables that filled has.
func questions() []api.Op {
	ops := []api.Op{
		get("t", num(1)), get("t", num(1)), scan("t"), scan("t"), find("t", "i", txt("x")), find("t", "i", txt("x")),
		scanFrom("t", row{num(1)}, row{num(3)}, 2), get("w", num(1), txt("a")), find("w", "j", txt("s"), txt("a"), txt("s")), scanFrom("w", row{num(1)}, row{num(2), txt("b")}, 9), get("t", num(99)),
	}
	for i := range ops {
		ops[i].Key, ops[i].To, ops[i].Row = roomy(ops[i].Key), roomy(ops[i].To), roomy(ops[i].Row)
	}
	own := append(make([]api.Op, 0, 2*len(ops)), ops...)
	spare := own[len(own):cap(own)]
	for i := range spare {
		spare[i] = put("t", num(1), txt("spare"))
	}
	return own
}

// whole is a list of operations with all spare room, as text.
func whole(ops []api.Op) string {
	out := fmt.Sprint(ops[:cap(ops)])
	for _, op := range ops {
		out += fmt.Sprint(op.Key[:cap(op.Key)], op.To[:cap(op.To)], op.Row[:cap(op.Row)])
	}
	return out
}

func TestOpsAreNeitherChangedNorKept(t *testing.T) {
	x, r := filled(t)
	ops := questions()
	before := whole(ops)
	results, done := x.ask(r, ops...)
	want := answer(results, done)
	if whole(ops) != before {
		t.Error("Read has changed its query")
	}
	for _, tail := range [][]api.Op{{get("nobody")}, {put("t", num(5), txt("q"))}, {{}}, make([]api.Op, most)} {
		list := append(questions(), tail...)
		was := whole(list)
		r.Read(list)
		if whole(list) != was {
			t.Errorf("Read has changed its query with %s", brief(tail))
		}
	}
	spoilOps(ops)
	if answer(results, done) != want {
		t.Error("writing over a query changes what it told")
	}
	again, done := x.ask(r, questions()...)
	if answer(again, done) != want {
		t.Errorf("%s, not %s", brief(again), brief(want))
	}
	x.verify()
}

func TestWhatIsToldIsNew(t *testing.T) {
	x, r := filled(t)
	other := x.reader()
	before := state(x.s)
	for _, tail := range [][]api.Op{nil, {get("nobody")}} {
		ops := append(questions(), tail...)
		kept, done := x.ask(other, ops...)
		want := answer(kept, done)
		for range 3 {
			results, done := x.ask(r, ops...)
			if answer(results, done) != want {
				t.Errorf("%s, not %s", brief(results), brief(want))
			}
			spoilResults(results)
		}
		if answer(kept, done) != want {
			t.Error("writing over an answer changes another one")
		}
		if fmt.Sprint(ops[:len(questions())]) != fmt.Sprint(questions()) {
			t.Error("writing over an answer changes a query")
		}
	}
	if state(x.s) != before {
		t.Error("writing over an answer changes the store")
	}
	// Nor what it comes to later.
	x.done(0, put("t", num(1), txt("later")))
	x.advance(3)
	x.sees(r, "t", row{num(-4), txt("y")}, row{num(1), txt("later")}, row{num(2), null()}, row{num(3), txt("x")})
	x.verify()
}

// One list of one answer written over leaves all others of it as they are.
func TestListsOfOneAnswerAreTheirOwn(t *testing.T) {
	x, r := filled(t)
	ops := questions()
	plain, _ := x.ask(r, ops...)
	for i := range plain {
		for j := range plain[i].Rows {
			results, _ := x.ask(r, ops...)
			spoil(results[i].Rows[j])
			results[i].Rows[j] = plain[i].Rows[j]
			if answer(results, true) != answer(plain, true) {
				t.Errorf("the row %d of the result %d is another one's, too", j, i)
			}
		}
		results, _ := x.ask(r, ops...)
		rows := results[i].Rows[:cap(results[i].Rows)]
		clear(rows)
		results[i].Rows = plain[i].Rows
		if answer(results, true) != answer(plain, true) {
			t.Errorf("the rows of the result %d are another one's, too", i)
		}
	}
	x.verify()
}

// What was told stays as it is, whatever is done then.
func TestWhatWasToldStays(t *testing.T) {
	x, r := filled(t)
	results, done := x.ask(r, questions()...)
	want := answer(results, done)
	x.done(0, del("t", num(1)), put("t", num(3), txt("later")), put("w", num(1), txt("a"), null(), null()))
	x.advance(1)
	x.done(1, put("t", num(1), txt("again")), del("w", num(2), txt("a")))
	x.drop("t")
	x.advance(3)
	x.ask(r, questions()...)
	x.create(numbers("t", true))
	x.advance(3)
	x.ask(r, questions()...)
	if answer(results, done) != want {
		t.Error("what was told has changed")
	}
	x.verify()
}

// area is a piece of memory. What lies there is kept, so that the memory is not given to another meanwhile.
type area struct {
	what       string
	kept       any
	begin, end uintptr
}

func textArea(what, s string) area {
	p := uintptr(unsafe.Pointer(unsafe.StringData(s)))
	return area{what, s, p, p + uintptr(len(s))}
}

// listArea has a list's spare room, too.
func listArea[T any](what string, list []T) area {
	var member T
	p := uintptr(unsafe.Pointer(unsafe.SliceData(list)))
	return area{what, list, p, p + uintptr(cap(list))*unsafe.Sizeof(member)}
}

func rowAreas(what string, list row) []area {
	out := []area{listArea(what, list)}
	for i, v := range list {
		out = append(out, textArea(fmt.Sprint(what, " text ", i), v.S))
	}
	return out
}

func resultAreas(what string, list []api.Result) []area {
	out := []area{listArea(what, list)}
	for i, r := range list {
		out = append(out, listArea(fmt.Sprint(what, " rows ", i), r.Rows))
		for j, x := range r.Rows {
			out = append(out, rowAreas(fmt.Sprint(what, " result ", i, " row ", j), x)...)
		}
	}
	return out
}

func opAreas(what string, list []api.Op) []area {
	out := []area{listArea(what, list)}
	for i, op := range list {
		out = append(out, rowAreas(fmt.Sprint(what, " key ", i), op.Key)...)
		out = append(out, rowAreas(fmt.Sprint(what, " to ", i), op.To)...)
	}
	return out
}

// apart fails if two of these pieces of memory share any.
func apart(t *testing.T, areas []area) {
	t.Helper()
	for i, a := range areas {
		for _, b := range areas[:i] {
			if a.begin < b.end && b.begin < a.end {
				t.Errorf("%s and %s share memory: %s, %s", a.what, b.what, brief(a.kept), brief(b.kept))
			}
		}
	}
}

// No two lists of one answer share any memory, nor does one share any with another answer, with data, or with what was handed in.
func TestAnswersAreApart(t *testing.T) {
	x, r := filled(t)
	other := x.reader()
	ops := questions()
	for i := range ops {
		for _, list := range []row{ops[i].Key, ops[i].To} {
			for j := range list {
				list[j].S = strings.Clone(list[j].S)
			}
		}
	}
	areas := opAreas("query", ops)
	for at, reader := range []func([]api.Op) ([]api.Result, bool, int, api.Errno){r.Read, r.Read, other.Read} {
		results, _, _, _ := reader(ops)
		areas = append(areas, resultAreas(fmt.Sprint("answer ", at), results)...)
		results, _, _, _ = reader(append(slices.Clip(ops), get("nobody")))
		areas = append(areas, resultAreas(fmt.Sprint("refused answer ", at), results)...)
	}
	d, _ := x.s.AsOf(1)
	for _, name := range d.Tables() {
		rows, _ := d.Rows(name)
		for i, y := range rows {
			areas = append(areas, rowAreas(fmt.Sprint("data ", name, i), y)...)
		}
	}
	apart(t, areas)
}
