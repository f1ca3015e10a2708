package schema_test

import (
	"encoding/binary"
	"fmt"
	"math"
	"slices"
	"strings"
	"testing"

	"hopper/api"
	"hopper/schema"
)

// The bytes of catalogues by chapter 8's words, put together by hand.

// num is a number: eight bytes, the lowest first.
func num(n int64) string {
	return string(binary.LittleEndian.AppendUint64(nil, uint64(n)))
}

func txt(s string) string { return num(int64(len(s))) + s }

// lst is a list, of members that are bytes already.
func lst(members ...string) string {
	return num(int64(len(members))) + strings.Join(members, "")
}

// bytesOf are those of a schema.
func bytesOf(x api.Table) string {
	var columns, indexes []string
	for _, c := range x.Columns {
		columns = append(columns, txt(c.Name)+num(int64(c.Kind)))
	}
	for _, n := range x.Indexes {
		var list []string
		for _, at := range n.Columns {
			list = append(list, num(int64(at)))
		}
		unique := "\x00"
		if n.Unique {
			unique = "\x01"
		}
		indexes = append(indexes, txt(n.Name)+lst(list...)+unique)
	}
	return txt(x.Name) + lst(columns...) + num(int64(x.Key)) + lst(indexes...)
}

func allBytes(list ...api.Table) string {
	var b []string
	for _, x := range list {
		b = append(b, bytesOf(x))
	}
	return strings.Join(b, "")
}

// encodes holds that a catalogue is written as these bytes, and that these are read as it.
func encodes(t *testing.T, c *schema.Catalogue, want string) {
	t.Helper()
	before := state(c)
	b, e := c.Encode()
	if b != want || e != api.OK {
		t.Errorf("Encode: %.300q %d, not %.300q", b, e, want)
		return
	}
	decoded, f := schema.Decode(b)
	if decoded == nil || f != (api.Fault{}) {
		t.Errorf("Decode %.300q: %v", b, f)
		return
	}
	unchanged(t, decoded, before)
	unchanged(t, c, before)
}

func cantEncode(t *testing.T, c *schema.Catalogue) {
	t.Helper()
	before := state(c)
	if b, e := c.Encode(); b != "" || e != api.ErrLong {
		t.Errorf("Encode: %d bytes %d, not ErrLong", len(b), e)
	}
	unchanged(t, c, before)
}

func decodes(t *testing.T, b string, want ...api.Table) {
	t.Helper()
	c, f := schema.Decode(b)
	if c == nil || f != (api.Fault{}) {
		t.Errorf("Decode of %d bytes %.200q: %v", len(b), b, f)
		return
	}
	var list []string
	for _, x := range want {
		list = append(list, x.Name)
		found(t, c, x)
	}
	names(t, c, list...)
	if again, e := c.Encode(); again != b || e != api.OK {
		t.Errorf("Encode: %.200q %d, not what was read, %.200q", again, e, b)
	}
}

func noCatalogue(t *testing.T, b string) {
	t.Helper()
	if c, f := schema.Decode(b); c != nil || f != (api.Fault{Code: api.ErrForm}) {
		t.Errorf("Decode of %d bytes %.200q: %v %v, not ErrForm", len(b), b, c != nil, f)
	}
}

func tooLong(t *testing.T, b string) {
	t.Helper()
	if c, f := schema.Decode(b); c != nil || f != (api.Fault{Code: api.ErrLong}) {
		t.Errorf("Decode of %d bytes %.200q: %v %v, not ErrLong", len(b), b, c != nil, f)
	}
}

// 14.3: Encode.

func TestBytesWrittenOut(t *testing.T) {
	c := catalogue(t, example())
	encodes(t, c, "\x01\x00\x00\x00\x00\x00\x00\x00t"+
		"\x02\x00\x00\x00\x00\x00\x00\x00"+
		"\x01\x00\x00\x00\x00\x00\x00\x00a\x02\x00\x00\x00\x00\x00\x00\x00"+
		"\x01\x00\x00\x00\x00\x00\x00\x00b\x05\x00\x00\x00\x00\x00\x00\x00"+
		"\x01\x00\x00\x00\x00\x00\x00\x00"+
		"\x01\x00\x00\x00\x00\x00\x00\x00"+
		"\x01\x00\x00\x00\x00\x00\x00\x00i\x01\x00\x00\x00\x00\x00\x00\x00\x01\x00\x00\x00\x00\x00\x00\x00\x00")
	drop(t, c, "t")
	create(t, c, with(example(), func(x *api.Table) { x.Indexes[0].Unique = true }), api.OK)
	encodes(t, c, txt("t")+lst(txt("a")+num(2), txt("b")+num(5))+num(1)+lst(txt("i")+lst(num(1))+"\x01"))
	encodes(t, catalogue(t, plainTable("abc")), txt("abc")+lst(txt("a")+num(2))+num(1)+lst())
}

func TestEncodeOfNone(t *testing.T) {
	encodes(t, schema.New(), "")
	c := catalogue(t, example())
	drop(t, c, "t")
	encodes(t, c, "")
}

func TestEncodeByNames(t *testing.T) {
	list := []api.Table{plainTable("0"), plainTable("00"), plainTable("9"), plainTable("a"), greatest("a0"), example(), indexed(8), plainTable("z")}
	for _, order := range [][]int{{0, 1, 2, 3, 4, 5, 6, 7}, {7, 6, 5, 4, 3, 2, 1, 0}, {3, 7, 0, 5, 1, 6, 2, 4}} {
		c := schema.New()
		for _, at := range order {
			create(t, c, list[at], api.OK)
		}
		encodes(t, c, allBytes(list...))
		drop(t, c, "t")
		encodes(t, c, allBytes(slices.Concat(list[:5], list[6:])...))
	}
}

func TestEncodeOfEachForm(t *testing.T) {
	for n := 1; n <= 32; n++ {
		encodes(t, catalogue(t, wide(n)), bytesOf(wide(n)))
		x := with(wide(n), func(x *api.Table) { x.Key = n })
		encodes(t, catalogue(t, x), bytesOf(x))
	}
	for n := range 9 {
		encodes(t, catalogue(t, indexed(n)), bytesOf(indexed(n)))
	}
	x := greatest(strings.Repeat("g", 32))
	if n := len(bytesOf(x)); n != 4040 {
		t.Errorf("%d bytes", n)
	}
	encodes(t, catalogue(t, x), bytesOf(x))
}

func TestEncodeOfAsManyAsMayBe(t *testing.T) {
	var list []api.Table
	c := schema.New()
	for n := range most {
		list = append(list, plainTable(fmt.Sprintf("n%04d", n)))
		if e := c.Create(list[n]); e != api.OK {
			t.Fatalf("Create %d: %d", n, e)
		}
	}
	encodes(t, c, allBytes(list...))
	// One more is no catalogue, though its bytes are not too many.
	b := allBytes(append(list, plainTable("z"))...)
	if len(b) > api.MaxBytes {
		t.Fatalf("%d bytes", len(b))
	}
	noCatalogue(t, b)
	noCatalogue(t, allBytes(append(list, plainTable("z"), plainTable("zz"))...))
	decodes(t, allBytes(list[1:]...), list[1:]...)
}

// sized has a schema of so many bytes, from 54 to some 1500, its name being of 5.
func sized(name string, size int) api.Table {
	x := plainTable(name)
	left := size - len(bytesOf(x))
	for left > 31 {
		// A column has 16 bytes and its name.
		n := min(left, 48)
		x.Columns = append(x.Columns, api.Column{Name: fmt.Sprintf("%0*d", n-16, len(x.Columns)), Kind: api.VBool})
		left -= n
	}
	x.Columns[0].Name += strings.Repeat("a", left)
	return x
}

// filled has schemas of 1024 bytes each, 256 of them but for the last one, which has that many more or fewer.
func filled(t *testing.T, more int) []api.Table {
	t.Helper()
	var list []api.Table
	for n := range 256 {
		list = append(list, sized(number(n), 1024))
	}
	list[255] = sized(number(255), 1024+more)
	if n := len(allBytes(list...)); n != api.MaxBytes+more {
		t.Fatalf("%d bytes", n)
	}
	return list
}

func TestJustAsManyBytesAsMayBe(t *testing.T) {
	for _, more := range []int{0, -1, -100} {
		list := filled(t, more)
		c := catalogue(t, list...)
		encodes(t, c, allBytes(list...))
		decodes(t, allBytes(list...), list...)
	}
}

func TestMoreBytesThanMayBe(t *testing.T) {
	for _, more := range []int{1, 2, 100} {
		list := filled(t, more)
		c := catalogue(t, list...)
		cantEncode(t, c)
		tooLong(t, allBytes(list...))
		// One goes, and it can be written.
		drop(t, c, number(3))
		encodes(t, c, allBytes(slices.Concat(list[:3], list[4:])...))
		create(t, c, list[3], api.OK)
		cantEncode(t, c)
	}
	list := filled(t, 0)
	c := catalogue(t, list...)
	for _, name := range []string{"a", "n0100a", "z"} {
		create(t, c, plainTable(name), api.OK)
		cantEncode(t, c)
		drop(t, c, name)
	}
	encodes(t, c, allBytes(list...))
}

func TestManyMoreBytesThanMayBe(t *testing.T) {
	c := schema.New()
	for n := range most {
		if e := c.Create(greatest(number(n))); e != api.OK {
			t.Fatalf("Create %d: %d", n, e)
		}
	}
	if b, e := c.Encode(); b != "" || e != api.ErrLong {
		t.Errorf("Encode: %d bytes %d, not ErrLong", len(b), e)
	}
	names(t, c, numbers(most)...)
}

// 14.3: Decode.

func TestDecodeOfNone(t *testing.T) {
	decodes(t, "")
	c, _ := schema.Decode("")
	create(t, c, example(), api.OK)
	names(t, c, "t")
}

func TestDecodeOfSome(t *testing.T) {
	for _, list := range [][]api.Table{
		{example()}, {plainTable("a")}, {greatest("g")}, {example(), indexed(8)}, {plainTable("0"), plainTable("a"), plainTable("aa"), plainTable("b")},
		{plainTable("9"), greatest("a"), example()},
	} {
		decodes(t, allBytes(list...), list...)
	}
}

// What was decoded is a catalogue as another.
func TestDecodedCataloguesAreUsed(t *testing.T) {
	c, _ := schema.Decode(allBytes(plainTable("a"), example()))
	create(t, c, example(), api.ErrThere)
	create(t, c, greatest("g"), api.OK)
	drop(t, c, "a")
	encodes(t, c, allBytes(greatest("g"), example()))
	create(t, c, plainTable("a"), api.OK)
	create(t, c, wide(33), api.ErrSchema)
	names(t, c, "a", "g", "t")
}

func TestTooLongGoesAheadOfNoCatalogue(t *testing.T) {
	for _, n := range []int{api.MaxBytes + 1, api.MaxBytes + 2, 1 << 20} {
		for _, s := range []string{"\x00", "\xff", "q"} {
			tooLong(t, strings.Repeat(s, n))
		}
		tooLong(t, bytesOf(example())+strings.Repeat("\x00", n))
	}
	for _, s := range []string{"\x00", "\xff", "q"} {
		noCatalogue(t, strings.Repeat(s, api.MaxBytes))
		noCatalogue(t, strings.Repeat(s, api.MaxBytes-1))
	}
}

func TestBytesThatEndEarly(t *testing.T) {
	list := []api.Table{plainTable("a"), indexed(3), with(example(), func(x *api.Table) { x.Name = "x" }), wide(2)}
	list[3].Name = "y"
	list[1].Name = "b"
	b := allBytes(list...)
	// ends has how many schemas there are up to a place at which one ends.
	ends := map[int]int{}
	for n := range len(list) + 1 {
		ends[len(allBytes(list[:n]...))] = n
	}
	for n := range len(b) {
		if many, whole := ends[n]; whole {
			decodes(t, b[:n], list[:many]...)
		} else {
			noCatalogue(t, b[:n])
		}
	}
	decodes(t, b, list...)
}

// So too of a great one, whose end is far behind what ends early.
func TestGreatOnesThatEndEarly(t *testing.T) {
	b := bytesOf(greatest("g"))
	for n := 1; n < len(b); n++ {
		noCatalogue(t, b[:n])
	}
}

func TestBytesBehindTheEnd(t *testing.T) {
	for _, b := range []string{bytesOf(example()), bytesOf(plainTable("a")), allBytes(plainTable("a"), example())} {
		for c := range 256 {
			noCatalogue(t, b+string([]byte{byte(c)}))
		}
		for _, more := range []string{num(0), num(1), txt("z"), num(0) + num(0) + num(0) + num(0), strings.Repeat("\x00", 100), strings.Repeat("\xff", 100)} {
			noCatalogue(t, b+more)
			noCatalogue(t, more+b)
		}
	}
}

func TestSchemasNotByNames(t *testing.T) {
	for _, list := range [][]string{
		{"b", "a"}, {"a", "c", "b"}, {"b", "a", "c"}, {"c", "b", "a"}, {"a", "9"}, {"aa", "a"}, {"ab", "aa"}, {"10", "1"}, {"b", "aaaa"},
		{"a", "a"}, {"a", "b", "b"}, {"a", "a", "b"}, {"a", "b", "a"}, {"a", "b", "c", "a"},
	} {
		var tables []api.Table
		for _, name := range list {
			tables = append(tables, plainTable(name))
		}
		noCatalogue(t, allBytes(tables...))
		slices.SortFunc(tables, func(a, b api.Table) int { return strings.Compare(a.Name, b.Name) })
		tables = slices.CompactFunc(tables, func(a, b api.Table) bool { return a.Name == b.Name })
		decodes(t, allBytes(tables...), tables...)
	}
	// Twice, and otherwise unlike.
	noCatalogue(t, allBytes(plainTable("t"), example()))
	noCatalogue(t, allBytes(example(), plainTable("t")))
}

// refused are schemas that may not be.
func refused() []api.Table {
	list := []api.Table{
		{}, wide(0), wide(33), wide(34), indexed(9), indexed(16), plainTable(""), plainTable("T"), plainTable("t\x00"), plainTable(strings.Repeat("t", 33)),
	}
	for _, n := range []int{-1, 0, 6, 7, 258, math.MinInt, math.MaxInt} {
		list = append(list, with(example(), func(x *api.Table) { x.Columns[0].Kind = n }), with(example(), func(x *api.Table) { x.Columns[1].Kind = n }))
	}
	for _, n := range []int{-1, 0, 3, 4, 257, math.MinInt, math.MaxInt} {
		list = append(list, with(example(), func(x *api.Table) { x.Key = n }))
	}
	for _, n := range []int{-1, 2, 3, 256, math.MinInt, math.MaxInt} {
		list = append(list, with(example(), func(x *api.Table) { x.Indexes[0].Columns[0] = n }))
	}
	for _, n := range []int{0, 33, 34, 5000} {
		list = append(list, with(example(), func(x *api.Table) { x.Indexes[0].Columns = make([]int, n) }))
	}
	for _, name := range []string{"", "B", "b.", strings.Repeat("b", 33)} {
		list = append(list, with(example(), func(x *api.Table) { x.Columns[1].Name = name }), with(example(), func(x *api.Table) { x.Indexes[0].Name = name }))
	}
	return append(list,
		with(example(), func(x *api.Table) { x.Columns[1].Name = "a" }),
		with(indexed(2), func(x *api.Table) { x.Indexes[1].Name = "i0" }),
		wide(5000))
}

func TestSchemasThatMayNotBe(t *testing.T) {
	for _, x := range refused() {
		mayNot(t, x)
		b := bytesOf(x)
		noCatalogue(t, b)
		noCatalogue(t, bytesOf(plainTable("0"))+b)
		noCatalogue(t, b+bytesOf(plainTable("zz")))
		noCatalogue(t, bytesOf(plainTable("0"))+b+bytesOf(plainTable("zz")))
	}
}

func TestFlags(t *testing.T) {
	for c := range 256 {
		s := string([]byte{byte(c)})
		first := txt("t") + lst(txt("a")+num(2)) + num(1) + lst(txt("i")+lst(num(0))+s, txt("j")+lst(num(0))+"\x01")
		last := txt("t") + lst(txt("a")+num(2)) + num(1) + lst(txt("i")+lst(num(0))+"\x00", txt("j")+lst(num(0))+s)
		if c < 2 {
			x := plainTable("t")
			x.Indexes = []api.Index{{Name: "i", Columns: []int{0}, Unique: c == 1}, {Name: "j", Columns: []int{0}, Unique: true}}
			decodes(t, first, x)
			x.Indexes = []api.Index{{Name: "i", Columns: []int{0}}, {Name: "j", Columns: []int{0}, Unique: c == 1}}
			decodes(t, last, x)
			continue
		}
		noCatalogue(t, first)
		noCatalogue(t, last)
		noCatalogue(t, last+bytesOf(plainTable("u")))
	}
}

// wrongCounts has numbers of bytes, or of members, that are not what stands there.
func wrongCounts(n int64) []int64 {
	list := []int64{-1, -2, -8, -256, math.MinInt64, math.MinInt64 + 1, n + 1, n + 2, n + 1000, 32, 33, 4096, 4097, 65536, 262144, 262145,
		1 << 31, 1<<32 + n, 1<<56 + n, 1<<63 - 8, math.MaxInt64, math.MinInt64 + n}
	for less := range n {
		list = append(list, less)
	}
	return list
}

func TestCountsOfTexts(t *testing.T) {
	for _, behind := range []string{"", bytesOf(plainTable("z")), allBytes(plainTable("x"), example(), greatest("z"))} {
		for _, n := range wrongCounts(3) {
			c := num(n) + "ann"
			noCatalogue(t, c+lst(txt("a")+num(2))+num(1)+lst()+behind)
			noCatalogue(t, txt("t")+lst(c+num(2))+num(1)+lst()+behind)
			noCatalogue(t, txt("t")+lst(txt("a")+num(2), c+num(2))+num(1)+lst()+behind)
			noCatalogue(t, txt("t")+lst(txt("a")+num(2))+num(1)+lst(c+lst(num(0))+"\x00")+behind)
			noCatalogue(t, bytesOf(plainTable("s"))+c+lst(txt("a")+num(2))+num(1)+lst()+behind)
		}
	}
}

func TestCountsOfLists(t *testing.T) {
	columns, indexes := txt("a")+num(2)+txt("b")+num(5), txt("i")+lst(num(0))+"\x00"+txt("j")+lst(num(0))+"\x01"
	for _, behind := range []string{"", bytesOf(plainTable("z")), allBytes(plainTable("x"), example(), greatest("z"))} {
		for _, n := range wrongCounts(2) {
			c := num(n)
			noCatalogue(t, txt("t")+c+columns+num(1)+lst()+behind)
			noCatalogue(t, txt("t")+c+columns+num(1)+num(2)+indexes+behind)
			noCatalogue(t, txt("t")+num(2)+columns+num(1)+c+indexes+behind)
			noCatalogue(t, txt("t")+num(2)+columns+num(1)+lst(txt("i")+c+num(0)+num(1)+"\x01")+behind)
			noCatalogue(t, bytesOf(plainTable("s"))+txt("t")+c+columns+num(1)+lst()+behind)
		}
	}
	decodes(t, txt("t")+num(2)+columns+num(1)+num(2)+indexes, with(example(), func(x *api.Table) {
		x.Indexes = []api.Index{{Name: "i", Columns: []int{0}}, {Name: "j", Columns: []int{0}, Unique: true}}
	}))
}

func TestBytesOfNothing(t *testing.T) {
	for _, b := range []string{"\x00", "t", "abc", num(0), num(1), num(8), txt("t"), num(5) + num(0) + bytesOf(example()), strings.Repeat("\x00", 32), strings.Repeat("\xff", 48), num(math.MaxInt64), num(math.MinInt64)} {
		noCatalogue(t, b)
	}
}

// P1: calls end soon, however many members bytes tell of.
func TestCountsThatWouldBeHuge(t *testing.T) {
	for _, n := range []int64{math.MaxInt64, math.MaxInt64 - 1, 1 << 40, 1 << 31, 262144} {
		for _, member := range []string{"", num(0), num(0) + num(0), num(0) + num(n), txt("a") + num(2), num(0) + num(0) + "\x00"} {
			many := strings.Repeat(member, 100000/max(len(member), 1))
			noCatalogue(t, txt("t")+num(n)+many)
			noCatalogue(t, txt("t")+lst(txt("a")+num(2))+num(1)+num(n)+many)
			noCatalogue(t, txt("t")+lst(txt("a")+num(2))+num(1)+lst(txt("i")+num(n)+many))
			noCatalogue(t, num(n)+many)
		}
	}
}

// 14.4: bytes are one catalogue or none: what is read is written as just those bytes, whichever byte is another one.
func TestOneByteChanged(t *testing.T) {
	b := allBytes(plainTable("a"), with(indexed(2), func(x *api.Table) { x.Name = "b" }), example())
	read := 0
	for at := range b {
		for c := range 256 {
			s := b[:at] + string([]byte{byte(c)}) + b[at+1:]
			x, f := schema.Decode(s)
			if f.Code != api.OK {
				noCatalogue(t, s)
				continue
			}
			read++
			if again, e := x.Encode(); again != s || e != api.OK {
				t.Errorf("Encode: %.200q %d, not what was read, %.200q", again, e, s)
			}
			for _, name := range x.Names() {
				if y, e := x.Find(name); e != api.OK || schema.Check(y) != api.OK {
					t.Errorf("%v %d is there, and may not be", y, e)
				}
			}
		}
	}
	if read < len(b) {
		t.Errorf("only %d were read", read)
	}
}
