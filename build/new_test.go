package build_test

import (
	"fmt"
	"math"
	"slices"
	"strings"
	"testing"

	"hopper/api"
	"hopper/build"
)

// 21.1: New.

// refuses wants an error of New, and nothing beside it; the model has to say so, too.
func refuses(t *testing.T, what string, x api.Table, i api.Index, rows []row, want api.Errno) {
	t.Helper()
	if _, e := modelNew(x, i, rows); e != want {
		t.Errorf("%s: the model tells %d, not %d", what, e, want)
	}
	if b, e := build.New(x, i, rows); b != nil || e != want {
		t.Errorf("%s: %v, %d, not %d", what, b, e, want)
	}
}

func TestExample(t *testing.T) {
	y := begin(t, example(), byText(false), line(1, "x"), line(2, "y"))
	left, e := y.scan(1)
	if left != 1 || e != api.OK {
		t.Error(left, e)
	}
	y.writes(set(3, "a"), cut(1))
	left, e = y.scan(9)
	if left != 0 || e != api.OK {
		t.Error(left, e)
	}
	list, e := y.finish()
	if e != api.OK || text(list) != text([]row{{txt("a"), num(3)}, {txt("y"), num(2)}}) {
		t.Error(list, e)
	}
	begin(t, example(), byText(true), line(1, "x"), line(2, "x")).clashes("a unique one")
}

func TestNewIsOpenAndHasScannedNothing(t *testing.T) {
	for _, n := range []int{0, 1, 2, 100, api.MaxItems} {
		y := begin(t, example(), byText(false), many(0, n)...)
		is(t, "Open", y.b.Open(), true)
		if n > 0 {
			_, e := y.finish()
			is(t, "Finish", e, api.ErrBuild)
		}
		left, e := y.scan(1)
		if left != max(0, n-1) || e != api.OK {
			t.Error(n, left, e)
		}
	}
}

// schemas that may not be, by each of chapter 14's rules.
func badSchemas() map[string]api.Table {
	out := map[string]api.Table{"nothing": {}}
	spoil := func(what string, change func(x *api.Table)) {
		x := example()
		x.Indexes = []api.Index{{Name: "j", Columns: []int{0}}, {Name: "l", Columns: []int{1}}}
		change(&x)
		out[what] = x
	}
	spoil("no name", func(x *api.Table) { x.Name = "" })
	spoil("a long name", func(x *api.Table) { x.Name = strings.Repeat("t", api.MaxName+1) })
	spoil("a name of another byte", func(x *api.Table) { x.Name = "T" })
	spoil("no columns", func(x *api.Table) { x.Columns = nil })
	spoil("too many columns", func(x *api.Table) {
		for n := range api.MaxRow {
			x.Columns = append(x.Columns, api.Column{Name: fmt.Sprint("c", n), Kind: api.VInt})
		}
	})
	spoil("a column's name", func(x *api.Table) { x.Columns[1].Name = "b." })
	spoil("a column's name twice", func(x *api.Table) { x.Columns[1].Name = "a" })
	spoil("a column of null", func(x *api.Table) { x.Columns[0].Kind = api.VNull })
	spoil("a column of no kind", func(x *api.Table) { x.Columns[1].Kind = 6 })
	spoil("no key", func(x *api.Table) { x.Key = 0 })
	spoil("a key below 0", func(x *api.Table) { x.Key = -1 })
	spoil("a key of too many", func(x *api.Table) { x.Key = 3 })
	spoil("an index's name", func(x *api.Table) { x.Indexes[1].Name = "" })
	spoil("an index's name twice", func(x *api.Table) { x.Indexes[1].Name = "j" })
	spoil("an index without columns", func(x *api.Table) { x.Indexes[1].Columns = nil })
	spoil("an index of no column", func(x *api.Table) { x.Indexes[0].Columns = []int{2} })
	spoil("too many indexes", func(x *api.Table) { x.Indexes = indexes(9) })
	return out
}

// indexes are so many that may be.
func indexes(n int) (out []api.Index) {
	for i := range n {
		out = append(out, api.Index{Name: fmt.Sprint("x", i), Columns: []int{i % 2}, Unique: i%3 == 0})
	}
	return out
}

// indexes that may not be in the example's table, by each of chapter 14's rules.
func badIndexes() map[string]api.Index {
	return map[string]api.Index{
		"nothing":                {},
		"no name":                {Columns: []int{1}},
		"a long name":            {Name: strings.Repeat("i", api.MaxName+1), Columns: []int{1}},
		"a great letter":         {Name: "I", Columns: []int{1}},
		"another byte":           {Name: "i_", Columns: []int{1}},
		"a byte 0":               {Name: "i\x00", Columns: []int{1}},
		"no columns":             {Name: "i"},
		"an empty list":          {Name: "i", Columns: []int{}},
		"too many columns":       {Name: "i", Columns: make([]int, api.MaxRow+1)},
		"a column below 0":       {Name: "i", Columns: []int{0, -1}},
		"a column behind all":    {Name: "i", Columns: []int{2}},
		"the least number":       {Name: "i", Columns: []int{math.MinInt}},
		"the greatest number":    {Name: "i", Columns: []int{1, 0, math.MaxInt}, Unique: true},
		"the last one is behind": {Name: "i", Columns: []int{0, 1, 0, 2}, Unique: true},
	}
}

func TestNewOfASchemaThatMayNotBe(t *testing.T) {
	for what, x := range badSchemas() {
		refuses(t, what, x, byText(false), nil, api.ErrSchema)
		refuses(t, what+", rows", x, byText(true), []row{line(1, "x")}, api.ErrSchema)
		// The schema is looked at ahead of all else.
		refuses(t, what+", a name that is there", x, api.Index{Name: "j", Columns: []int{0}}, nil, api.ErrSchema)
		refuses(t, what+", too many rows", x, byText(false), many(0, api.MaxItems+1), api.ErrSchema)
		refuses(t, what+", a row", x, byText(false), []row{nil}, api.ErrSchema)
		for other, i := range badIndexes() {
			refuses(t, what+", "+other, x, i, nil, api.ErrSchema)
		}
	}
}

func TestNewOfAnIndexThatIsThere(t *testing.T) {
	for n := 1; n <= 8; n++ {
		x := example()
		x.Indexes = indexes(n)
		for _, i := range x.Indexes {
			refuses(t, "the same", x, i, nil, api.ErrThere)
			i.Unique = !i.Unique
			i.Columns = []int{1, 0}
			refuses(t, "the same name", x, i, many(0, 3), api.ErrThere)
			// The name is looked for ahead of what the index is, and of rows.
			for _, columns := range [][]int{nil, {2}, {-1}, make([]int, api.MaxRow+1)} {
				refuses(t, "the same name, may not be", x, api.Index{Name: i.Name, Columns: columns}, nil, api.ErrThere)
			}
			refuses(t, "the same name, too many rows", x, i, many(0, api.MaxItems+1), api.ErrThere)
			refuses(t, "the same name, a row", x, i, []row{nil}, api.ErrThere)
		}
	}
}

func TestNewOfAnIndexThatMayNotBe(t *testing.T) {
	for what, i := range badIndexes() {
		refuses(t, what, example(), i, nil, api.ErrSchema)
		refuses(t, what+", rows", example(), i, many(0, 3), api.ErrSchema)
		refuses(t, what+", too many rows", example(), i, many(0, api.MaxItems+1), api.ErrSchema)
		refuses(t, what+", a row", example(), i, []row{nil}, api.ErrSchema)
	}
	x := example()
	x.Indexes = indexes(8)
	refuses(t, "one more index than there may be", x, byText(false), nil, api.ErrSchema)
	refuses(t, "one more, too many rows", x, byText(true), many(0, api.MaxItems+1), api.ErrSchema)
	refuses(t, "one more, a row", x, byText(true), []row{nil}, api.ErrSchema)
	x.Indexes = indexes(7)
	begin(t, x, byText(true), many(0, 3)...).ends("the last that may be", row{txt("x0"), num(0)}, row{txt("x1"), num(1)}, row{txt("x2"), num(2)})
}

func TestNewOfTheGreatestNamesAndIndexes(t *testing.T) {
	x := example()
	x.Name = strings.Repeat("z", api.MaxName)
	i := api.Index{Name: strings.Repeat("9", api.MaxName), Columns: slices.Repeat([]int{1, 0}, api.MaxRow/2)}
	y := begin(t, x, i, line(1, "x"), line(2, "a"))
	y.writes(put(x.Name, 1, num(3), txt("b")))
	entry := func(r row) row {
		return append(slices.Repeat(row{r[1], r[0]}, api.MaxRow/2), r[0])
	}
	y.ends("as many columns as may be", entry(line(2, "a")), entry(line(3, "b")), entry(line(1, "x")))
	// An index may have the name of the table, or of a column.
	for _, name := range []string{"t", "a", "b", "0"} {
		i := byText(false)
		i.Name = name
		begin(t, example(), i, line(1, "x")).ends(name, row{txt("x"), num(1)})
	}
}

func TestNewWithManyRows(t *testing.T) {
	y := begin(t, example(), byText(true), many(0, api.MaxItems)...)
	left, e := y.scan(api.MaxItems - 1)
	if left != 1 || e != api.OK {
		t.Error(left, e)
	}
	y.scan(1)
	list, e := y.finish()
	if len(list) != api.MaxItems || e != api.OK {
		t.Error(len(list), e)
	}
	refuses(t, "one more", example(), byText(false), many(0, api.MaxItems+1), api.ErrLong)
	// How many there are is looked at ahead of each of them.
	rows := many(0, api.MaxItems+1)
	rows[0] = nil
	refuses(t, "one more, and one does not fit", example(), byText(false), rows, api.ErrLong)
	refuses(t, "twice as many, all of the same key", example(), byText(false), slices.Repeat([]row{line(1, "x")}, 2*api.MaxItems), api.ErrLong)
	refuses(t, "just as many, and the last one does not fit", example(), byText(false), append(many(0, api.MaxItems-1), row{num(9999)}), api.ErrRow)
}

func TestNewWithoutRows(t *testing.T) {
	for _, rows := range [][]row{nil, {}} {
		for _, unique := range []bool{false, true} {
			y := begin(t, example(), byText(unique), rows...)
			list, e := y.finish()
			if len(list) != 0 || e != api.OK {
				t.Error(list, e)
			}
			y = begin(t, example(), byText(unique), rows...)
			y.writes(set(2, "b"), set(1, "c"))
			y.ends("writes alone", row{txt("b"), num(2)}, row{txt("c"), num(1)})
		}
	}
}

func TestNewWithRowsThatDoNotFit(t *testing.T) {
	lists := map[string]row{
		"nothing":                     nil,
		"too few values":              {num(2)},
		"too many values":             {num(2), txt("x"), null()},
		"very many values":            make(row, api.MaxRow+1),
		"a null in the key":           {null(), txt("x")},
		"another kind in the key":     {txt("2"), txt("x")},
		"a float in the key":          {flo(2), txt("x")},
		"another kind behind the key": {num(2), num(2)},
	}
	for n, v := range bad() {
		lists[fmt.Sprint("a value in the key that may not be ", n)] = row{v, txt("x")}
		lists[fmt.Sprint("a value that may not be ", n)] = row{num(2), v}
	}
	for what, r := range lists {
		refuses(t, what, example(), byText(false), []row{r}, api.ErrRow)
		refuses(t, what+" ahead", example(), byText(true), []row{r, line(3, "x")}, api.ErrRow)
		refuses(t, what+" behind", example(), byText(false), []row{line(1, "x"), r}, api.ErrRow)
		refuses(t, what+" between", example(), byText(false), []row{line(1, "x"), r, line(3, "x")}, api.ErrRow)
		refuses(t, what+" twice", example(), byText(false), []row{r, r}, api.ErrRow)
	}
}

func TestNewWithKeysThatDoNotRise(t *testing.T) {
	for what, rows := range map[string][]row{
		"the same row":              {line(1, "x"), line(1, "x")},
		"the same key":              {line(1, "x"), line(1, "y")},
		"the same key in the end":   {line(1, "x"), line(2, "x"), line(2, "y")},
		"a lower key":               {line(2, "x"), line(1, "y")},
		"a lower key in the end":    {line(1, "x"), line(5, "x"), line(4, "x")},
		"a key of long ago":         {line(1, "x"), line(5, "x"), line(1, "x")},
		"by two's complement":       {line(0, "x"), line(-1, "x")},
		"from the greatest":         {line(math.MaxInt64, "x"), line(math.MinInt64, "x")},
		"one that does not fit too": {line(2, "x"), line(1, "x"), {num(3)}},
	} {
		refuses(t, what, example(), byText(false), rows, api.ErrRow)
		refuses(t, what+", unique", example(), byText(true), rows, api.ErrRow)
	}
	// Keys alone count, not what stands behind them.
	begin(t, example(), byText(false), line(-1, "z"), line(0, "b"), line(1, "a")).ends("they rise", row{txt("a"), num(1)}, row{txt("b"), num(0)}, row{txt("z"), num(-1)})
	x := kinds(2)
	base := func(b, n int64) row { return row{yes(b), num(n), null(), null(), null()} }
	for _, rows := range [][]row{{base(0, 1), base(0, 1)}, {base(0, 1), base(0, 0)}, {base(1, 0), base(0, 1)}} {
		refuses(t, "a key of two", x, byText(false), rows, api.ErrRow)
	}
	begin(t, x, byText(true), base(0, 1), base(0, 2), base(1, 1)).scan(3)
}

// Keys of each kind rise in the order of their values, -0 ahead of +0.
func TestNewWithKeysOfEachKind(t *testing.T) {
	for kind := api.VBool; kind <= api.VText; kind++ {
		x := api.Table{Name: "t", Columns: []api.Column{{Name: "a", Kind: kind}, {Name: "b", Kind: api.VInt}}, Key: 1}
		i := api.Index{Name: "i", Columns: []int{1}}
		var rows, want []row
		for n, v := range rising(kind) {
			rows = append(rows, row{v, num(int64(-n))})
			want = append(want, row{num(int64(-n)), v})
		}
		slices.Reverse(want)
		begin(t, x, i, rows...).ends(fmt.Sprint("the kind ", kind), want...)
		for n := 1; n < len(rows); n++ {
			list := slices.Clone(rows)
			list[n-1], list[n] = list[n], list[n-1]
			refuses(t, fmt.Sprint("the kind ", kind, " at ", n), x, i, list, api.ErrRow)
			list[n-1] = list[n]
			refuses(t, fmt.Sprint("the kind ", kind, " twice at ", n), x, i, list, api.ErrRow)
		}
	}
}

// Rows may clash by indexes that the table has already, and by the new one: New looks at none.
func TestNewWithRowsThatClash(t *testing.T) {
	x := example()
	x.Indexes = []api.Index{{Name: "u", Columns: []int{1}, Unique: true}}
	begin(t, x, byText(false), line(1, "x"), line(2, "x")).ends("by another one", row{txt("x"), num(1)}, row{txt("x"), num(2)})
	y := begin(t, x, byText(true), line(1, "x"), line(2, "x"))
	y.writes(set(2, "y"))
	y.ends("in the beginning", row{txt("x"), num(1)}, row{txt("y"), num(2)})
}
