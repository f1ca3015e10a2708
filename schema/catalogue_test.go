package schema_test

import (
	"fmt"
	"math/rand"
	"slices"
	"strings"
	"testing"
	"unsafe"

	"hopper/api"
	"hopper/schema"
)

// most is how many schemas a catalogue may have.
const most = 4096

// create holds what Create answers; if it is refused, nothing has changed.
func create(t *testing.T, c *schema.Catalogue, x api.Table, want api.Errno) {
	t.Helper()
	before := ""
	if want != api.OK {
		before = state(c)
	}
	if e := c.Create(x); e != want {
		t.Errorf("Create %s: %d, not %d", brief(x), e, want)
	}
	if want == api.OK {
		found(t, c, x)
		return
	}
	unchanged(t, c, before)
}

func drop(t *testing.T, c *schema.Catalogue, name string) {
	t.Helper()
	if e := c.Drop(name); e != api.OK {
		t.Errorf("Drop %.40q: %d, not OK", name, e)
	}
	notThere(t, c, name)
}

// notThere holds that no call knows the name.
func notThere(t *testing.T, c *schema.Catalogue, name string) {
	t.Helper()
	before := state(c)
	if x, e := c.Find(name); !same(x, api.Table{}) || e != api.ErrTable {
		t.Errorf("Find %.40q: %s %d, not ErrTable", name, brief(x), e)
	}
	if e := c.Drop(name); e != api.ErrTable {
		t.Errorf("Drop %.40q: %d, not ErrTable", name, e)
	}
	unchanged(t, c, before)
}

func found(t *testing.T, c *schema.Catalogue, want api.Table) {
	t.Helper()
	if x, e := c.Find(want.Name); !same(x, want) || e != api.OK {
		t.Errorf("Find %.40q: %s %d, not %s", want.Name, brief(x), e, brief(want))
	}
}

func names(t *testing.T, c *schema.Catalogue, want ...string) {
	t.Helper()
	if list := c.Names(); !slices.Equal(list, want) {
		t.Errorf("Names: %.300q, not %.300q", list, want)
	}
}

// state is all that a catalogue tells.
func state(c *schema.Catalogue) string {
	list := c.Names()
	b, e := c.Encode()
	text := []string{fmt.Sprintf("%q %q %d", list, b, e)}
	for _, name := range list {
		x, e := c.Find(name)
		text = append(text, fmt.Sprintf("%v %d", plain(x), e))
	}
	return strings.Join(text, "\n")
}

func unchanged(t *testing.T, c *schema.Catalogue, before string) {
	t.Helper()
	if now := state(c); now != before {
		t.Errorf("changed: %.400s, not %.400s", now, before)
	}
}

// catalogue has schemas, created as they stand.
func catalogue(t *testing.T, list ...api.Table) *schema.Catalogue {
	t.Helper()
	c := schema.New()
	for _, x := range list {
		create(t, c, x, api.OK)
	}
	return c
}

// number is the name of a number: names stand in the order of their numbers.
func number(n int) string { return fmt.Sprintf("n%04d", n) }

func numbers(many int) []string {
	list := make([]string, many)
	for n := range list {
		list[n] = number(n)
	}
	return list
}

// full has as many schemas as may be, created in a drawn order.
func full(t *testing.T) *schema.Catalogue {
	t.Helper()
	c := schema.New()
	for _, n := range rand.New(rand.NewSource(3)).Perm(most) {
		if e := c.Create(plainTable(number(n))); e != api.OK {
			t.Fatalf("Create %d: %d", n, e)
		}
	}
	return c
}

// 14.2.

func TestNew(t *testing.T) {
	c := schema.New()
	if c == nil {
		t.Fatal("New: nil")
	}
	names(t, c)
	for _, name := range []string{"", "t", "a", "T", "\x00", strings.Repeat("a", 33)} {
		notThere(t, c, name)
	}
	if b, e := c.Encode(); b != "" || e != api.OK {
		t.Errorf("Encode: %q %d", b, e)
	}
}

func TestCreateOfWhatMayNotBe(t *testing.T) {
	for _, c := range []*schema.Catalogue{schema.New(), catalogue(t, example(), plainTable("u"))} {
		for _, x := range []api.Table{
			{}, wide(0), wide(33), indexed(9),
			with(example(), func(x *api.Table) { x.Key = 0 }), // of a name that is there: what may not be is told first
			with(example(), func(x *api.Table) { x.Columns[1].Name = "a" }),
			with(example(), func(x *api.Table) { x.Indexes[0].Columns[0] = 2 }),
			plainTable(""), plainTable("T"), plainTable("t "), plainTable(strings.Repeat("t", 33)),
		} {
			create(t, c, x, api.ErrSchema)
		}
	}
}

func TestCreateOfWhatIsThere(t *testing.T) {
	c := catalogue(t, example())
	for _, x := range []api.Table{example(), plainTable("t"), with(indexed(8), func(x *api.Table) { x.Name = "t" }), greatest("t")} {
		create(t, c, x, api.ErrThere)
	}
	names(t, c, "t")
	found(t, c, example())
	for _, name := range []string{"tt", "s", "u", "0", "t0", "a", "i"} {
		create(t, c, plainTable(name), api.OK)
	}
	names(t, c, "0", "a", "i", "s", "t", "t0", "tt", "u")
}

func TestAsManyAsMayBe(t *testing.T) {
	c := full(t)
	names(t, c, numbers(most)...)
	for n := range most {
		found(t, c, plainTable(number(n)))
	}
	create(t, c, plainTable("a"), api.ErrLong)
	create(t, c, plainTable("z"), api.ErrLong)
	create(t, c, greatest("n00000"), api.ErrLong)
	// What may not be, and what is there, is told ahead of there being so many.
	create(t, c, api.Table{}, api.ErrSchema)
	create(t, c, plainTable("Z"), api.ErrSchema)
	create(t, c, with(plainTable("z"), func(x *api.Table) { x.Key = 2 }), api.ErrSchema)
	create(t, c, with(plainTable(number(7)), func(x *api.Table) { x.Key = 2 }), api.ErrSchema)
	create(t, c, plainTable(number(0)), api.ErrThere)
	create(t, c, greatest(number(most-1)), api.ErrThere)
	notThere(t, c, "z")
}

func TestOneGoesAndAnotherComes(t *testing.T) {
	c := full(t)
	for _, n := range []int{0, 1, 2000, most - 1} {
		drop(t, c, number(n))
		create(t, c, plainTable("z"), api.OK)
		create(t, c, plainTable("y"), api.ErrLong)
		create(t, c, plainTable(number(n)), api.ErrLong)
		drop(t, c, "z")
		create(t, c, plainTable(number(n)), api.OK)
		create(t, c, plainTable("y"), api.ErrLong)
	}
	names(t, c, numbers(most)...)
}

func TestOneLessThanMayBe(t *testing.T) {
	c := schema.New()
	for n := range most - 1 {
		if e := c.Create(plainTable(number(n))); e != api.OK {
			t.Fatalf("Create %d: %d", n, e)
		}
	}
	create(t, c, plainTable("z"), api.OK)
	create(t, c, plainTable("zz"), api.ErrLong)
	names(t, c, append(numbers(most-1), "z")...)
}

func TestDropAndCreateAgain(t *testing.T) {
	c := catalogue(t, example(), plainTable("u"))
	for range 3 {
		drop(t, c, "t")
		names(t, c, "u")
		create(t, c, greatest("t"), api.OK)
		names(t, c, "t", "u")
		drop(t, c, "t")
		create(t, c, example(), api.OK)
		found(t, c, plainTable("u"))
	}
	drop(t, c, "u")
	drop(t, c, "t")
	names(t, c)
	create(t, c, example(), api.OK)
}

func TestDropOfAllInAnyOrder(t *testing.T) {
	for seed := range int64(5) {
		r := rand.New(rand.NewSource(seed))
		c, left := schema.New(), numbers(60)
		for _, n := range r.Perm(60) {
			create(t, c, wide(1), api.OK)
			drop(t, c, "wide")
			create(t, c, plainTable(number(n)), api.OK)
		}
		for _, n := range r.Perm(60) {
			drop(t, c, number(n))
			left = slices.DeleteFunc(left, func(name string) bool { return name == number(n) })
			names(t, c, left...)
		}
		names(t, c)
	}
}

func TestNamesThatAreNotThere(t *testing.T) {
	c := catalogue(t, example(), plainTable("ab"), plainTable("a0"))
	for _, name := range []string{"", "T", "tt", "t ", " t", "t\x00", "a", "b", "i", "a1", "ab0", "AB", strings.Repeat("t", 32), strings.Repeat("t", 33), strings.Repeat("t", 1<<20)} {
		notThere(t, c, name)
	}
	names(t, c, "a0", "ab", "t")
}

// By bytes: digits stand ahead of letters, and a name ahead of a longer one that begins with it.
func TestNamesByBytes(t *testing.T) {
	rising := []string{"0", "00", "01", "0a", "1", "10", "2", "9", "9z", "a", "a0", "a00", "a9", "aa", "ab", "b", "b0", "z", "z9", "zz", strings.Repeat("z", 32)}
	for seed := range int64(10) {
		c := schema.New()
		for _, n := range rand.New(rand.NewSource(seed)).Perm(len(rising)) {
			create(t, c, plainTable(rising[n]), api.OK)
		}
		names(t, c, rising...)
	}
	falling := slices.Clone(rising)
	slices.Reverse(falling)
	for _, list := range [][]string{rising, falling} {
		c := schema.New()
		for _, name := range list {
			create(t, c, plainTable(name), api.OK)
		}
		names(t, c, rising...)
	}
}

func TestSchemasOfAllForms(t *testing.T) {
	list := []api.Table{example(), plainTable("p"), greatest("g"), indexed(8), with(wide(32), func(x *api.Table) { x.Name, x.Key = "w", 32 })}
	c := catalogue(t, list...)
	for _, x := range list {
		found(t, c, x)
	}
	names(t, c, "g", "p", "t", "w", "wide")
}

func TestCataloguesAreApart(t *testing.T) {
	a, b := schema.New(), schema.New()
	create(t, a, example(), api.OK)
	names(t, b)
	create(t, b, greatest("t"), api.OK)
	found(t, a, example())
	create(t, b, plainTable("u"), api.OK)
	names(t, a, "t")
	before := state(b)
	drop(t, a, "t")
	unchanged(t, b, before)
	names(t, schema.New())
	bytes, _ := b.Encode()
	x, _ := schema.Decode(bytes)
	y, _ := schema.Decode(bytes)
	drop(t, x, "t")
	create(t, y, plainTable("v"), api.OK)
	unchanged(t, b, before)
	names(t, x, "u")
	names(t, y, "t", "u", "v")
}

// R4: what is handed in is not kept, and what is told is new memory.

// spoil writes over all of a schema's lists, their spare room, too.
func spoil(x *api.Table) {
	x.Name, x.Key = "spoilt", -7
	for i := range x.Indexes[:cap(x.Indexes)] {
		index := &x.Indexes[:cap(x.Indexes)][i]
		for j := range index.Columns[:cap(index.Columns)] {
			index.Columns[:cap(index.Columns)][j] = -7
		}
		*index = api.Index{Name: "spoilt", Columns: []int{-7}, Unique: !index.Unique}
	}
	for i := range x.Columns[:cap(x.Columns)] {
		x.Columns[:cap(x.Columns)][i] = api.Column{Name: "spoilt", Kind: -7}
	}
}

func TestSchemasAreNotKept(t *testing.T) {
	for _, made := range []func() api.Table{example, func() api.Table { return indexed(8) }, func() api.Table { return greatest("g") }, func() api.Table { return wide(3) }} {
		c, x := schema.New(), made()
		create(t, c, x, api.OK)
		before := state(c)
		spoil(&x)
		unchanged(t, c, before)
		found(t, c, made())
	}
}

func TestFoundSchemasAreNew(t *testing.T) {
	c := catalogue(t, example(), indexed(8), greatest("g"), plainTable("p"))
	bytes, _ := c.Encode()
	decoded, _ := schema.Decode(bytes)
	for _, c := range []*schema.Catalogue{c, decoded} {
		before := state(c)
		for _, name := range c.Names() {
			x, _ := c.Find(name)
			y, _ := c.Find(name)
			kept := clone(y)
			spoil(&x)
			if !same(y, kept) {
				t.Errorf("what was told of %s has changed: %s, not %s", name, brief(y), brief(kept))
			}
			unchanged(t, c, before)
		}
	}
}

func TestNamesAreNew(t *testing.T) {
	c := catalogue(t, example(), plainTable("a"), plainTable("u"))
	one, other := c.Names(), c.Names()
	for i := range one[:cap(one)] {
		one[:cap(one)][i] = "spoilt"
	}
	if !slices.Equal(other, []string{"a", "t", "u"}) {
		t.Errorf("another list has changed: %q", other)
	}
	names(t, c, "a", "t", "u")
}

func TestWhatWasToldStays(t *testing.T) {
	c := catalogue(t, example(), plainTable("a"))
	list := c.Names()
	x, _ := c.Find("t")
	b, _ := c.Encode()
	bytes := strings.Clone(b)
	drop(t, c, "t")
	create(t, c, greatest("t"), api.OK)
	create(t, c, plainTable("b"), api.OK)
	if !slices.Equal(list, []string{"a", "t"}) || !same(x, example()) || b != bytes {
		t.Errorf("told: %q %s %q", list, brief(x), b)
	}
}

// area is a piece of memory. What lies there is kept, so that the memory is not given to another meanwhile.
type area struct {
	what       string
	kept       any
	begin, end uintptr
}

func textArea(what, s string) area {
	p := uintptr(unsafe.Pointer(unsafe.StringData(s)))
	return area{what, s, p, p + uintptr(len(s))}
}

// listArea has a list's spare room, too.
func listArea[T any](what string, list []T) area {
	var member T
	p := uintptr(unsafe.Pointer(unsafe.SliceData(list)))
	return area{what, list, p, p + uintptr(cap(list))*unsafe.Sizeof(member)}
}

func tableAreas(what string, x api.Table) []area {
	out := []area{textArea(what+" name", x.Name), listArea(what+" columns", x.Columns), listArea(what+" indexes", x.Indexes)}
	for i, c := range x.Columns {
		out = append(out, textArea(fmt.Sprint(what, " column ", i), c.Name))
	}
	for i, n := range x.Indexes {
		out = append(out, textArea(fmt.Sprint(what, " index ", i), n.Name), listArea(fmt.Sprint(what, " index columns ", i), n.Columns))
	}
	return out
}

// apart fails if two of these pieces of memory share any.
func apart(t *testing.T, areas []area) {
	t.Helper()
	for i, a := range areas {
		for _, b := range areas[:i] {
			if a.begin < b.end && b.begin < a.end {
				t.Errorf("%s and %s share memory: %s, %s", a.what, b.what, brief(a.kept), brief(b.kept))
			}
		}
	}
}

// ownTexts has each text in memory of its own, which a literal may not have. (Texts of a byte share theirs, whoever makes them.)
func ownTexts(x api.Table) api.Table {
	x = clone(x)
	x.Name = strings.Clone("own" + x.Name)
	for i, c := range x.Columns {
		x.Columns[i].Name = strings.Clone("own"[:min(3, 32-len(c.Name))] + c.Name)
	}
	for i, n := range x.Indexes {
		x.Indexes[i].Name = strings.Clone("own"[:min(3, 32-len(n.Name))] + n.Name)
	}
	return x
}

func TestHandedOutIsNew(t *testing.T) {
	for _, handed := range []api.Table{ownTexts(example()), ownTexts(indexed(8)), ownTexts(greatest("g")), ownTexts(plainTable("p"))} {
		c := catalogue(t, handed)
		name := strings.Clone(handed.Name)
		b, _ := c.Encode()
		again, _ := c.Encode()
		decoded, _ := schema.Decode(b)
		areas := slices.Concat(tableAreas("handed in", handed), []area{textArea("name", name), textArea("bytes", b), textArea("bytes again", again)})
		for i, c := range []*schema.Catalogue{c, c, decoded, decoded} {
			x, _ := c.Find(name)
			list := c.Names()
			areas = append(areas, listArea(fmt.Sprint("names ", i), list), textArea(fmt.Sprint("text of names ", i), list[0]))
			areas = append(areas, tableAreas(fmt.Sprint("found ", i), x)...)
		}
		apart(t, areas)
	}
}

// R4: texts are not kept as they were handed in: their bytes may be written anew.
func TestTextsAreNotKept(t *testing.T) {
	room := make([][]byte, 4)
	texts := make([]string, 4)
	for i, s := range []string{"table", "first", "second", "index"} {
		room[i] = []byte(s)
		texts[i] = unsafe.String(&room[i][0], len(s))
	}
	x := api.Table{Name: texts[0], Columns: []api.Column{{Name: texts[1], Kind: 2}, {Name: texts[2], Kind: 5}}, Key: 1, Indexes: []api.Index{{Name: texts[3], Columns: []int{1}}}}
	c := schema.New()
	if e := c.Create(x); e != api.OK {
		t.Fatal(e)
	}
	found, e := c.Find(texts[0])
	if e != api.OK {
		t.Fatal(e)
	}
	before := state(c)
	for i := range room {
		copy(room[i], "zzzzzzzz")
	}
	unchanged(t, c, before)
	names(t, c, "table")
	want := api.Table{Name: "table", Columns: []api.Column{{Name: "first", Kind: 2}, {Name: "second", Kind: 5}}, Key: 1, Indexes: []api.Index{{Name: "index", Columns: []int{1}}}}
	if now, e := c.Find("table"); !same(now, want) || !same(found, want) || e != api.OK {
		t.Errorf("%s, and told ahead %s, %d", brief(now), brief(found), e)
	}
	b, _ := c.Encode()
	bytes := []byte(b)
	decoded, f := schema.Decode(unsafe.String(&bytes[0], len(bytes)))
	if f != (api.Fault{}) {
		t.Fatal(f)
	}
	clear(bytes)
	unchanged(t, decoded, before)
	if e := decoded.Drop("table"); e != api.OK {
		t.Error(e)
	}
}

// R7: the same call tells the same, and one that only tells changes nothing.
func TestTellingTwice(t *testing.T) {
	c := catalogue(t, example(), greatest("g"), indexed(3))
	before := state(c)
	for range 5 {
		found(t, c, example())
		names(t, c, "g", "t", "wide")
		notThere(t, c, "x")
		create(t, c, example(), api.ErrThere)
		may(t, example())
		mayNot(t, wide(33))
		fits(t, example(), rowOf(example()), api.OK)
		unchanged(t, c, before)
	}
}
