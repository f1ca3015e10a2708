package schema_test

import (
	"encoding/binary"
	"math"
	"math/rand"
	"regexp"
	"slices"
	"strings"
	"testing"

	"hopper/api"
	"hopper/schema"
	"hopper/value"
)

// The model is the chapter's words, written out as plainly as may be.

var nameForm = regexp.MustCompile(`\A[a-z0-9]{1,32}\z`)

// namesAreGood tells whether each of so many names may be, and is there once.
func namesAreGood(many int, name func(int) string) bool {
	there := map[string]bool{}
	for i := range many {
		if !nameForm.MatchString(name(i)) {
			return false
		}
		there[name(i)] = true
	}
	return len(there) == many
}

func isGood(x api.Table) bool {
	good := nameForm.MatchString(x.Name) && 1 <= len(x.Columns) && len(x.Columns) <= 32 && len(x.Indexes) <= 8 && 1 <= x.Key && x.Key <= len(x.Columns)
	good = good && namesAreGood(len(x.Columns), func(i int) string { return x.Columns[i].Name })
	good = good && namesAreGood(len(x.Indexes), func(i int) string { return x.Indexes[i].Name })
	for _, c := range x.Columns {
		good = good && slices.Contains([]int{1, 2, 3, 4, 5}, c.Kind)
	}
	for _, n := range x.Indexes {
		good = good && 1 <= len(n.Columns) && len(n.Columns) <= 32
		for _, at := range n.Columns {
			good = good && 0 <= at && at < len(x.Columns)
		}
	}
	return good
}

func modelCheck(x api.Table) api.Errno {
	if isGood(x) {
		return api.OK
	}
	return api.ErrSchema
}

func modelFits(x api.Table, row []api.Value) api.Errno {
	if !isGood(x) {
		return api.ErrSchema
	}
	if len(row) != len(x.Columns) {
		return api.ErrRow
	}
	for i, c := range x.Columns {
		_, e := value.Check([]api.Value{row[i]})
		null := row[i].Kind == 0
		if e != api.OK || !null && row[i].Kind != c.Kind || null && i < x.Key {
			return api.ErrRow
		}
	}
	return api.OK
}

// model is a catalogue: its schemas as they were created.
type model struct {
	list []api.Table
}

func (m *model) at(name string) int {
	return slices.IndexFunc(m.list, func(x api.Table) bool { return x.Name == name })
}

func (m *model) Create(x api.Table) api.Errno {
	switch {
	case !isGood(x):
		return api.ErrSchema
	case m.at(x.Name) >= 0:
		return api.ErrThere
	case len(m.list) == 4096:
		return api.ErrLong
	}
	m.list = append(m.list, clone(x))
	return api.OK
}

func (m *model) Drop(name string) api.Errno {
	at := m.at(name)
	if at < 0 {
		return api.ErrTable
	}
	m.list = slices.Delete(m.list, at, at+1)
	return api.OK
}

func (m *model) Find(name string) (api.Table, api.Errno) {
	if at := m.at(name); at >= 0 {
		return m.list[at], api.OK
	}
	return api.Table{}, api.ErrTable
}

// byNames has the schemas in their order.
func (m *model) byNames() []api.Table {
	list := slices.Clone(m.list)
	slices.SortFunc(list, func(a, b api.Table) int { return strings.Compare(a.Name, b.Name) })
	return list
}

func (m *model) Names() []string {
	var names []string
	for _, x := range m.byNames() {
		names = append(names, x.Name)
	}
	return names
}

func (m *model) Encode() (string, api.Errno) {
	b := allBytes(m.byNames()...)
	if len(b) > 262144 {
		return "", api.ErrLong
	}
	return b, api.OK
}

// modelDecode reads as many schemas as there are, and takes them for a catalogue if it would be written as just these bytes.
func modelDecode(b string) (*model, api.Errno) {
	if len(b) > 262144 {
		return nil, api.ErrLong
	}
	m, rest := &model{}, &bytesLeft{s: b}
	for rest.s != "" && !rest.bad {
		if m.Create(rest.table()) != api.OK {
			return nil, api.ErrForm
		}
	}
	if again, e := m.Encode(); rest.bad || again != b || e != api.OK {
		return nil, api.ErrForm
	}
	return m, api.OK
}

// bytesLeft reads loosely: whatever is read, it is written as it was or is none.
type bytesLeft struct {
	s   string
	bad bool
}

func (r *bytesLeft) next(n int64) string {
	if n < 0 || n > int64(len(r.s)) {
		r.s, r.bad = "", true
		return ""
	}
	s := r.s[:n]
	r.s = r.s[n:]
	return s
}

func (r *bytesLeft) number() int64 {
	s := r.next(8)
	if r.bad {
		return 0
	}
	return int64(binary.LittleEndian.Uint64([]byte(s)))
}

func (r *bytesLeft) text() string { return r.next(r.number()) }

func (r *bytesLeft) table() api.Table {
	x := api.Table{Name: r.text()}
	for many := r.number(); many > 0 && !r.bad; many-- {
		x.Columns = append(x.Columns, api.Column{Name: r.text(), Kind: int(r.number())})
	}
	x.Key = int(r.number())
	for many := r.number(); many > 0 && !r.bad; many-- {
		n := api.Index{Name: r.text()}
		for many := r.number(); many > 0 && !r.bad; many-- {
			n.Columns = append(n.Columns, int(r.number()))
		}
		n.Unique = r.next(1) == "\x01"
		x.Indexes = append(x.Indexes, n)
	}
	return x
}

// What is drawn.

// drawName draws from few names, so that they meet again.
func drawName(r *rand.Rand) string {
	name := "0az9b"[:1+r.Intn(5)]
	at := r.Intn(len(name))
	return name[at:] + name[:at]
}

// drawTable mostly draws a schema that may be.
func drawTable(r *rand.Rand) api.Table {
	x := wide(1 + r.Intn(6))
	x.Name, x.Key = drawName(r), 1+r.Intn(len(x.Columns))
	for i := range x.Columns {
		x.Columns[i].Kind = 1 + r.Intn(5)
	}
	for i := range r.Intn(4) {
		n := api.Index{Name: strings.Repeat("i", i+1), Unique: r.Intn(2) == 0}
		for range 1 + r.Intn(4) {
			n.Columns = append(n.Columns, r.Intn(len(x.Columns)))
		}
		x.Indexes = append(x.Indexes, n)
	}
	return x
}

func drawNumber(r *rand.Rand) int {
	list := []int{-1, 0, 1, 2, 5, 6, 7, 31, 32, 33, 255, 256, 4096, 4097, 1 << 31, 1 << 32, math.MinInt, math.MaxInt}
	return list[r.Intn(len(list))]
}

func drawAnyName(r *rand.Rand) string {
	list := []string{"", "c0", "c1", "i", "ii", "T", "a.", "a\x00", "z", strings.Repeat("a", 32), strings.Repeat("a", 33)}
	return list[r.Intn(len(list))]
}

// change makes one thing of a schema another one: many such schemas may not be.
func change(r *rand.Rand, x *api.Table) {
	column := &x.Columns[r.Intn(len(x.Columns))]
	index := &api.Index{}
	if len(x.Indexes) > 0 {
		index = &x.Indexes[r.Intn(len(x.Indexes))]
	}
	switch r.Intn(11) {
	case 0:
		x.Name = drawAnyName(r)
	case 1:
		column.Name = drawAnyName(r)
	case 2:
		column.Kind = drawNumber(r)
	case 3:
		x.Key = drawNumber(r)
	case 4:
		index.Name = drawAnyName(r)
	case 5:
		if len(index.Columns) > 0 {
			index.Columns[r.Intn(len(index.Columns))] = drawNumber(r)
		}
	case 6:
		index.Columns = make([]int, r.Intn(35))
	case 7:
		x.Indexes = indexed(r.Intn(11)).Indexes
	case 8:
		x.Columns = wide(1 + r.Intn(35)).Columns
	case 9:
		x.Columns = x.Columns[:1+r.Intn(len(x.Columns))]
	case 10:
		x.Key = len(x.Columns) + r.Intn(3) - 1
	}
}

func drawAnyTable(r *rand.Rand) api.Table {
	x := drawTable(r)
	for range r.Intn(3) {
		change(r, &x)
	}
	return x
}

// drawRow mostly draws a row that fits.
func drawRow(r *rand.Rand, x api.Table) []api.Value {
	row := rowOf(x)
	for range r.Intn(3) {
		if len(row) == 0 {
			break
		}
		switch at := r.Intn(len(row)); r.Intn(5) {
		case 0:
			row[at] = api.Value{}
		case 1:
			row[at] = sample(r.Intn(6))
		case 2:
			row[at] = bad()[r.Intn(len(bad()))]
		case 3:
			row = row[:at]
		case 4:
			row = append(row, sample(r.Intn(6)))
		}
	}
	return row
}

// told counts answers: what was never drawn shows nothing.
type told map[api.Errno]int

// each fails unless just these were told, and often.
func (d told) each(t *testing.T, least int, want ...api.Errno) {
	t.Helper()
	for _, e := range want {
		if d[e] < least {
			t.Errorf("%d was told %d times alone", e, d[e])
		}
	}
	if len(d) != len(want) {
		t.Errorf("others were told: %v", d)
	}
}

func TestChecksLikeTheModel(t *testing.T) {
	r := rand.New(rand.NewSource(141))
	checks, rows := told{}, told{}
	for range 20000 {
		x := drawAnyTable(r)
		e, want := schema.Check(x), modelCheck(x)
		if e != want {
			t.Fatalf("Check %s: %d, not %d", brief(x), e, want)
		}
		checks[e]++
		row := drawRow(r, x)
		if e, want = schema.Fits(x, row), modelFits(x, row); e != want {
			t.Fatalf("Fits %s of %s: %d, not %d", brief(x), brief(row), e, want)
		}
		rows[e]++
	}
	checks.each(t, 2000, api.OK, api.ErrSchema)
	rows.each(t, 2000, api.OK, api.ErrSchema, api.ErrRow)
}

// alike fails unless a catalogue tells what the model does.
func alike(t *testing.T, c *schema.Catalogue, m *model) {
	t.Helper()
	names(t, c, m.Names()...)
	for _, x := range m.list {
		found(t, c, x)
	}
	b, e := c.Encode()
	if want, wantE := m.Encode(); b != want || e != wantE {
		t.Fatalf("Encode: %.300q %d, not %.300q %d", b, e, want, wantE)
	}
}

// step does one drawn thing with both.
func step(t *testing.T, r *rand.Rand, c *schema.Catalogue, m *model, seen told) {
	t.Helper()
	name := drawName(r)
	switch r.Intn(4) {
	case 0, 1:
		x := drawTable(r)
		if r.Intn(4) == 0 {
			change(r, &x)
		}
		e, want := c.Create(x), m.Create(x)
		if e != want {
			t.Fatalf("Create %s: %d, not %d", brief(x), e, want)
		}
		seen[e]++
		spoil(&x)
	case 2:
		e, want := c.Drop(name), m.Drop(name)
		if e != want {
			t.Fatalf("Drop %q: %d, not %d", name, e, want)
		}
		seen[e]++
	case 3:
		x, e := c.Find(name)
		want, wantE := m.Find(name)
		if !same(x, want) || e != wantE {
			t.Fatalf("Find %q: %s %d, not %s %d", name, brief(x), e, brief(want), wantE)
		}
		seen[e]++
		spoil(&x)
	}
}

func TestScriptsLikeTheModel(t *testing.T) {
	seen := told{}
	for seed := range int64(100) {
		r := rand.New(rand.NewSource(seed))
		c, m := schema.New(), &model{}
		for range 60 {
			step(t, r, c, m, seen)
			alike(t, c, m)
		}
	}
	seen.each(t, 300, api.OK, api.ErrSchema, api.ErrThere, api.ErrTable)
}

func TestScriptsWhenItIsFull(t *testing.T) {
	seen := told{}
	r := rand.New(rand.NewSource(142))
	c, m := schema.New(), &model{}
	for n := range most - 5 {
		c.Create(plainTable(number(n)))
		m.Create(plainTable(number(n)))
	}
	for i := range 3000 {
		step(t, r, c, m, seen)
		if i%500 == 0 {
			alike(t, c, m)
		}
	}
	alike(t, c, m)
	seen.each(t, 100, api.OK, api.ErrSchema, api.ErrThere, api.ErrTable, api.ErrLong)
}

// spoilBytes answers bytes that are like b, mostly no catalogue's.
func spoilBytes(r *rand.Rand, b string) string {
	at := r.Intn(len(b) + 1)
	switch r.Intn(9) {
	case 0:
		return b[:at]
	case 1:
		return b + string([]byte{byte(r.Intn(3))})
	case 2:
		return b[:at] + string([]byte{byte(r.Intn(256))}) + b[at:]
	case 3:
		return b[:at] + b[min(len(b), at+1+r.Intn(8)):]
	case 4:
		return b[:at] + num(int64(drawNumber(r))) + b[min(len(b), at+8):]
	case 5:
		return b[:at] + num(int64(r.Intn(10))) + b[min(len(b), at+8):]
	case 6:
		return b + bytesOf(drawAnyTable(r))
	case 7:
		return bytesOf(drawAnyTable(r)) + b
	}
	if at == len(b) {
		return b
	}
	return b[:at] + string([]byte{b[at] ^ 1<<r.Intn(8)}) + b[at+1:]
}

// decodesAlike fails unless Decode tells what the model does.
func decodesAlike(t *testing.T, b string, seen told) {
	t.Helper()
	c, f := schema.Decode(b)
	m, want := modelDecode(b)
	if f != (api.Fault{Code: want}) || (c != nil) != (m != nil) {
		t.Fatalf("Decode of %d bytes %.300q: %v %v, not %d", len(b), b, c != nil, f, want)
	}
	seen[want]++
	if c != nil {
		alike(t, c, m)
	}
}

func TestBytesLikeTheModel(t *testing.T) {
	r := rand.New(rand.NewSource(143))
	seen := told{}
	for range 5000 {
		m := &model{}
		for range r.Intn(4) {
			m.Create(drawTable(r))
		}
		b, _ := m.Encode()
		decodesAlike(t, b, seen)
		for range 3 {
			b = spoilBytes(r, b)
			decodesAlike(t, b, seen)
		}
	}
	seen.each(t, 1000, api.OK, api.ErrForm)
}

// P1: whatever the bytes, no call panics.
func TestNothingPanics(t *testing.T) {
	r := rand.New(rand.NewSource(144))
	seen := told{}
	for range 20000 {
		b := make([]byte, r.Intn(150))
		for i := range b {
			if r.Intn(3) == 0 {
				b[i] = byte(r.Intn(256) >> r.Intn(9))
			}
		}
		decodesAlike(t, string(b), seen)
		decodesAlike(t, txt("t")+num(1)+txt("a")+num(2)+num(1)+num(1)+string(b), seen)
	}
	decodesAlike(t, strings.Repeat("\x00", 262145), seen)
	seen.each(t, 1, api.OK, api.ErrForm, api.ErrLong)
}
