package build_test

import (
	"fmt"
	"math"
	"slices"
	"strings"
	"testing"
	"unsafe"

	"hopper/api"
	"hopper/build"
)

// R4: what is handed in is neither changed nor kept, and what is told is new.

// roomy is a copy of a list with spare room, in which something lies.
func roomy[T any](list []T, spare T) []T {
	own := append(make([]T, 0, len(list)+3), list...)
	rest := own[len(own):cap(own)]
	for i := range rest {
		rest[i] = spare
	}
	return own
}

// spoil writes over a list, and over its spare room.
func spoil[T any](list []T, with T) {
	list = list[:cap(list)]
	for i := range list {
		list[i] = with
	}
}

func roomyRow(r row) row {
	own := roomy(r, txt("spare"))
	for i := range own {
		own[i].S = strings.Clone(own[i].S)
	}
	return own
}

// given is what New is handed, in memory of its own.
type given struct {
	table api.Table
	index api.Index
	rows  []row
}

// sample has an index of the key, and a text twice.
func sample() given {
	x := given{table: kinds(2), index: api.Index{Name: strings.Clone("i"), Columns: roomy([]int{4, 0, 4, 1}, 3)}}
	x.table.Name = strings.Clone(x.table.Name)
	x.table.Columns = roomy(x.table.Columns, api.Column{Name: "spare", Kind: api.VInt})
	for i := range x.table.Columns {
		x.table.Columns[i].Name = strings.Clone(x.table.Columns[i].Name)
	}
	for i := range x.table.Indexes {
		x.table.Indexes[i].Columns = roomy(x.table.Indexes[i].Columns, 1)
	}
	x.table.Indexes = roomy(x.table.Indexes, api.Index{Name: "spare", Columns: []int{1}})
	for n := range int64(6) {
		x.rows = append(x.rows, roomyRow(row{yes(n / 3), num(n % 3), flo(float64(n)), pair(1i), txt(fmt.Sprint("text", n%2))}))
	}
	x.rows = roomy(x.rows, row{txt("spare")})
	return x
}

// whole is all that is given, with all spare room, as text.
func (x given) whole() string {
	out := fmt.Sprintf("%q %d %v %v", x.table.Name, x.table.Key, x.table.Columns[:cap(x.table.Columns)], x.table.Indexes[:cap(x.table.Indexes)])
	for _, i := range append(slices.Clone(x.table.Indexes), x.index) {
		out += fmt.Sprint(i.Name, i.Unique, i.Columns[:cap(i.Columns)])
	}
	out += fmt.Sprint(x.rows[:cap(x.rows)])
	for _, r := range x.rows {
		out += fmt.Sprint(r[:cap(r)])
	}
	return out
}

func (x given) spoil() {
	for _, i := range append(slices.Clone(x.table.Indexes), x.index) {
		spoil(i.Columns, 77)
	}
	spoil(x.table.Indexes, api.Index{Name: "spoilt"})
	spoil(x.table.Columns, api.Column{Name: "spoilt", Kind: 77})
	for _, r := range x.rows {
		spoil(r, txt("spoilt"))
	}
	spoil(x.rows, row{txt("spoilt")})
}

// told are writes to the sample's table.
func told() []api.Write {
	list := []api.Write{
		put("k", 2, yes(0), num(1), null(), null(), txt("new")),
		gone("k", yes(0), num(2)),
		put("k", 2, yes(1), num(9), null(), null(), txt("text0")),
		put("k", 2, yes(1), num(1), null(), null(), null()),
		gone("k", yes(1), num(8)),
	}
	for i := range list {
		list[i].Row = roomyRow(list[i].Row)
		list[i].Key = strings.Clone(list[i].Key)
		list[i].Table = strings.Clone(list[i].Table)
	}
	return list
}

func wholeWrite(w api.Write) string {
	return fmt.Sprintf("%q %q %t %v", w.Table, w.Key, w.Gone, w.Row[:cap(w.Row)])
}

// run tells the writes, some ahead of the scan and some behind, and finishes; meanwhile is done between all calls.
func run(t *testing.T, b *build.Build, writes []api.Write, meanwhile func()) []row {
	t.Helper()
	for i, w := range writes {
		before := wholeWrite(w)
		if e := b.Write(w); e != api.OK {
			t.Fatal("Write:", e)
		}
		if wholeWrite(w) != before {
			t.Error("Write has changed", before)
		}
		meanwhile()
		if i%2 == 0 {
			b.Scan(2)
		}
		meanwhile()
	}
	b.Scan(99)
	list, e := b.Finish()
	if e != api.OK {
		t.Fatal("Finish:", e)
	}
	return list
}

func TestNothingThatIsGivenIsChangedOrKept(t *testing.T) {
	plain := sample()
	b, _ := build.New(plain.table, plain.index, plain.rows)
	want := text(run(t, b, told(), func() {}))
	if plain.whole() != sample().whole() {
		t.Error("what New was given has changed")
	}
	// Written over as soon as New has answered.
	early := sample()
	b, _ = build.New(early.table, early.index, early.rows)
	early.spoil()
	spoilt := early.whole()
	writes := told()
	list := run(t, b, writes, func() {})
	if text(list) != want {
		t.Errorf("%s, not %s", brief(list), brief(want))
	}
	if early.whole() != spoilt {
		t.Error("what was given is written to later")
	}
	for _, w := range writes {
		spoil(w.Row, txt("spoilt"))
	}
	if text(list) != want {
		t.Error("writing over a write's row changes what was told")
	}
	// Each write is written over as soon as it was told.
	x := sample()
	b, _ = build.New(x.table, x.index, x.rows)
	buffer := make(row, 5)
	for i, w := range told() {
		if !w.Gone {
			copy(buffer, w.Row)
			w.Row = buffer
		}
		is(t, "Write", b.Write(w), api.OK)
		spoil(buffer, txt("spoilt"))
		if i%2 == 0 {
			b.Scan(2)
		}
	}
	b.Scan(99)
	if list, _ := b.Finish(); text(list) != want {
		t.Errorf("%s, not %s", brief(list), brief(want))
	}
	if x.whole() != sample().whole() {
		t.Error("what New was given has changed")
	}
}

// loose are texts whose bytes are written over when they are wiped, as no text's should be: what is kept of them shows.
type loose struct {
	buffers [][]byte
}

func (l *loose) text(s string) string {
	if s == "" {
		return s
	}
	b := []byte(s)
	l.buffers = append(l.buffers, b)
	return unsafe.String(&b[0], len(b))
}

func (l *loose) row(r row) row {
	own := slices.Clone(r)
	for i := range own {
		own[i].S = l.text(own[i].S)
	}
	return own
}

func (l *loose) wipe() {
	for _, b := range l.buffers {
		spoil(b, '!')
	}
	l.buffers = nil
}

// No text that was handed in is kept, either, not even as a piece of memory.
func TestTextsAreNotKept(t *testing.T) {
	x := sample()
	plain, _ := build.New(x.table, x.index, x.rows)
	want := text(run(t, plain, told(), func() {}))
	var l loose
	x.table.Name, x.index.Name = l.text("k"), l.text("i")
	for i := range x.table.Columns {
		x.table.Columns[i].Name = l.text(x.table.Columns[i].Name)
	}
	for i := range x.table.Indexes {
		x.table.Indexes[i].Name = l.text(x.table.Indexes[i].Name)
	}
	for i := range x.rows {
		x.rows[i] = l.row(x.rows[i])
	}
	b, e := build.New(x.table, x.index, x.rows)
	if e != api.OK {
		t.Fatal(e)
	}
	l.wipe()
	writes := []api.Write{put("k", 2, yes(1), num(7), null(), null(), txt("on the way")), gone("k", yes(1), num(7))}
	for i, w := range append(writes, told()...) {
		w.Table, w.Key, w.Row = l.text(w.Table), l.text(w.Key), l.row(w.Row)
		is(t, "Write", b.Write(w), api.OK)
		l.wipe()
		if i%2 == 0 {
			b.Scan(2)
		}
	}
	b.Scan(99)
	if list, e := b.Finish(); e != api.OK || text(list) != want {
		t.Errorf("%s, %d, not %s", brief(list), e, brief(want))
	}
}

// What is refused changes nothing of what was given, either.
func TestNothingThatIsRefusedIsChanged(t *testing.T) {
	for what, change := range map[string]func(x *given){
		"a schema":       func(x *given) { x.table.Key = 0 },
		"a name":         func(x *given) { x.index.Name = "i1" },
		"an index":       func(x *given) { x.index.Columns[3] = 9 },
		"the last row":   func(x *given) { x.rows[5][0] = null() },
		"the same keys":  func(x *given) { x.rows[5][1] = num(1) },
		"a row too long": func(x *given) { x.rows[5] = append(x.rows[5], null()) },
		"all indexes":    func(x *given) { x.table.Indexes = roomy(indexes(8), api.Index{Name: "spare"}) },
	} {
		x, y := sample(), sample()
		change(&x)
		change(&y)
		if b, e := build.New(x.table, x.index, x.rows); b != nil || e == api.OK {
			t.Error(what, b, e)
		}
		if x.whole() != y.whole() {
			t.Errorf("%s: what New was given has changed", what)
		}
	}
	b, _ := build.New(example(), byText(false), nil)
	for what, w := range badWrites() {
		w.Row = roomyRow(w.Row)
		before := wholeWrite(w)
		b.Write(w)
		if wholeWrite(w) != before {
			t.Errorf("%s: Write has changed what it was given", what)
		}
	}
}

// What lies behind a list's length is not read.
func TestSpareRoomIsNotRead(t *testing.T) {
	x := sample()
	b, e := build.New(x.table, x.index, x.rows[:4])
	if e != api.OK {
		t.Fatal(e)
	}
	if left, _ := b.Scan(1); left != 3 {
		t.Error(left)
	}
	if e := b.Write(api.Write{Table: "k", Key: keyOf(yes(0), num(0)), Row: x.rows[0][:4]}); e != api.ErrRow {
		t.Error(e)
	}
	// A name of an index that lies behind the schema's list is not there.
	i := api.Index{Name: "spare", Columns: []int{0}}
	if _, e := build.New(x.table, i, nil); e != api.OK {
		t.Error(e)
	}
}

// What is told is nobody else's: writing over it changes nothing of another build, of what was given, of other rows of the answer.
func TestWhatIsToldIsNew(t *testing.T) {
	x := sample()
	first, _ := build.New(x.table, x.index, x.rows)
	second, _ := build.New(x.table, x.index, x.rows)
	writes := told()
	list := run(t, first, writes, func() {})
	want := text(list)
	for i := range list {
		other := slices.Clone(list)
		kept := slices.Clone(list[i])
		spoil(list[i], txt("spoilt"))
		for j := range other {
			if j != i && strings.Contains(text(other[j:j+1]), "spoilt") {
				t.Errorf("the entries %d and %d share memory", i, j)
			}
		}
		list[i] = kept
	}
	for i := range list {
		spoil(list[i], txt("spoilt"))
	}
	spoil(list, row{txt("spoilt")})
	if x.whole() != sample().whole() {
		t.Error("writing over an answer changes what was given")
	}
	for i, w := range writes {
		if wholeWrite(w) != wholeWrite(told()[i]) {
			t.Error("writing over an answer changes a write")
		}
	}
	if got := run(t, second, writes, func() {}); text(got) != want {
		t.Errorf("writing over an answer changes another build: %s", brief(got))
	}
	if list, e := first.Finish(); len(list) != 0 || e != api.ErrBuild {
		t.Error(list, e)
	}
}

// Builds of the same things do not know of each other, whatever their calls.
func TestBuildsAreApart(t *testing.T) {
	x := sample()
	alone, _ := build.New(x.table, x.index, x.rows)
	want := text(run(t, alone, told(), func() {}))
	one, _ := build.New(x.table, x.index, x.rows)
	other, _ := build.New(x.table, x.index, x.rows)
	n := int64(0)
	list := run(t, one, told(), func() {
		n++
		other.Scan(1)
		other.Write(put("k", 2, yes(n%2), num(n%5), null(), null(), txt("other")))
		other.Write(gone("k", yes(0), num(n%3)))
	})
	if text(list) != want {
		t.Errorf("%s, not %s", brief(list), brief(want))
	}
	if !other.Open() {
		t.Error("a Finish ends another build")
	}
}

// area is a piece of memory. What lies there is kept, so that the memory is not given to another meanwhile.
type area struct {
	what       string
	kept       any
	begin, end uintptr
}

func textArea(what, s string) area {
	p := uintptr(unsafe.Pointer(unsafe.StringData(s)))
	return area{what, s, p, p + uintptr(len(s))}
}

// listArea has a list's spare room, too.
func listArea[T any](what string, list []T) area {
	var member T
	p := uintptr(unsafe.Pointer(unsafe.SliceData(list)))
	return area{what, list, p, p + uintptr(cap(list))*unsafe.Sizeof(member)}
}

func rowAreas(what string, rows []row) []area {
	out := []area{listArea(what, rows)}
	for i, r := range rows {
		out = append(out, listArea(fmt.Sprint(what, " row ", i), r))
		for j, v := range r {
			out = append(out, textArea(fmt.Sprint(what, " row ", i, " text ", j), v.S))
		}
	}
	return out
}

// No two lists or texts of one answer share any memory, nor with another answer, nor with what was handed in.
func TestAnswersAreApart(t *testing.T) {
	x := sample()
	areas := rowAreas("rows", x.rows)
	areas = append(areas, listArea("index", x.index.Columns), listArea("columns", x.table.Columns), listArea("indexes", x.table.Indexes))
	for n := range 2 {
		b, _ := build.New(x.table, x.index, x.rows)
		writes := told()
		for i, w := range writes {
			areas = append(areas, rowAreas(fmt.Sprint("write ", n, " ", i), []row{w.Row})...)
			areas = append(areas, textArea(fmt.Sprint("write ", n, " key ", i), w.Key))
		}
		areas = append(areas, rowAreas(fmt.Sprint("answer ", n), run(t, b, writes, func() {}))...)
	}
	for i, a := range areas {
		for _, b := range areas[:i] {
			if a.begin < b.end && b.begin < a.end {
				t.Errorf("%s and %s share memory: %s, %s", a.what, b.what, brief(a.kept), brief(b.kept))
			}
		}
	}
}

// R7: the same calls tell the same, however often.
func TestTheSameTellsTheSame(t *testing.T) {
	want := ""
	for n := range 20 {
		b, e := build.New(example(), byText(false), many(0, 200))
		if e != api.OK {
			t.Fatal(e)
		}
		for k := range int64(300) {
			b.Write(set(k*7%311, fmt.Sprint("y", k%13)))
			b.Write(cut(k * 5 % 301))
		}
		b.Scan(math.MaxInt)
		list, e := b.Finish()
		if n == 0 {
			want = text(list)
		}
		if e != api.OK || len(list) == 0 || text(list) != want {
			t.Fatal(n, e, len(list))
		}
	}
}
