package build_test

import (
	"fmt"
	"math"
	"slices"
	"strings"
	"testing"

	"hopper/api"
	"hopper/build"
	"hopper/key"
)

// 21.2 and 21.3: Scan, Write, Finish, Abandon, Open.

func TestScan(t *testing.T) {
	for _, x := range []struct{ rows, most, left int }{
		{0, 1, 0}, {0, math.MaxInt, 0}, {1, 1, 0}, {1, 2, 0}, {5, 1, 4}, {5, 4, 1}, {5, 5, 0}, {5, 6, 0}, {5, math.MaxInt, 0}, {5, math.MaxInt32 + 1, 0},
		{api.MaxItems, 1, api.MaxItems - 1}, {api.MaxItems, api.MaxItems, 0}, {api.MaxItems, api.MaxItems + 1, 0},
	} {
		y := begin(t, example(), byText(false), many(0, x.rows)...)
		for _, most := range []int{0, -1, -5, math.MinInt} {
			if left, e := y.scan(most); left != 0 || e != api.ErrRange {
				t.Errorf("Scan %d: %d, %d", most, left, e)
			}
		}
		left, e := y.scan(x.most)
		if left != x.left || e != api.OK {
			t.Errorf("%d rows, Scan %d: %d, %d", x.rows, x.most, left, e)
		}
		left, e = y.scan(math.MaxInt)
		if left != 0 || e != api.OK {
			t.Errorf("%d rows, Scan of all: %d, %d", x.rows, left, e)
		}
		// Again and again, when none is left.
		for _, most := range []int{1, 7, math.MaxInt} {
			if left, e := y.scan(most); left != 0 || e != api.OK {
				t.Errorf("%d rows, Scan %d again: %d, %d", x.rows, most, left, e)
			}
		}
		if _, e := y.scan(0); e != api.ErrRange {
			t.Error("Scan 0 in the end:", e)
		}
		list, e := y.finish()
		if len(list) != x.rows || e != api.OK {
			t.Error(x.rows, len(list), e)
		}
	}
}

// How many are left hangs on the beginning's rows alone, not on writes.
func TestScanCountsTheBeginning(t *testing.T) {
	y := begin(t, example(), byText(false), many(0, 5)...)
	y.writes(cut(0), cut(3), cut(77), set(-1, "x"), set(9, "x"), set(1, "new"))
	for want := 4; want >= 0; want-- {
		if left, e := y.scan(1); left != want || e != api.OK {
			t.Errorf("%d, %d, not %d", left, e, want)
		}
		y.writes(set(int64(10+want), "x"), cut(-1))
	}
}

// badWrites are writes that do not fit the example's table.
func badWrites() map[string]api.Write {
	fine := set(1, "x")
	out := map[string]api.Write{"nothing": {}, "nothing, gone": {Gone: true}}
	both := func(what, table, key string) {
		out[what] = api.Write{Table: table, Key: key, Row: fine.Row}
		out[what+", gone"] = api.Write{Table: table, Key: key, Gone: true}
		out[what+", gone with a row"] = api.Write{Table: table, Key: key, Gone: true, Row: fine.Row}
	}
	for _, name := range []string{"", "u", "tt", "T", "t\x00", "i"} {
		both(fmt.Sprintf("the table %q", name), name, fine.Key)
	}
	for n, k := range []string{"", "x", "\x00", fine.Key[:8], fine.Key + "\x00", fine.Key + "\x01", "\x00" + fine.Key, "1", "\xff" + fine.Key[1:], strings.Repeat("x", api.MaxBytes), strings.Repeat("x", api.MaxBytes+1), strings.Repeat("\x01", api.MaxBytes+1), strings.Repeat("\x00\x01", api.MaxBytes), strings.Repeat(fine.Key, 1<<15)} {
		both(fmt.Sprint("bytes ", n), "t", k)
	}
	both("a key of too few", "t", keyOf())
	both("a key of too many", "t", keyOf(num(1), txt("x")))
	both("a key of the same twice", "t", keyOf(num(1), num(1)))
	for n, v := range []api.Value{null(), yes(1), flo(1), pair(1), txt("1")} {
		both(fmt.Sprint("a key of another kind ", n), "t", keyOf(v))
	}
	for n, r := range []row{nil, {}, {num(1)}, {num(1), txt("x"), null()}, make(row, api.MaxRow+1), {null(), txt("x")}, {txt("x"), num(1)}, {flo(1), txt("x")}, {num(1), num(1)}, {num(2), txt("x")}, {num(-1), txt("x")}, {num(math.MinInt64 + 1), txt("x")}} {
		out[fmt.Sprint("a row ", n)] = api.Write{Table: "t", Key: fine.Key, Row: r}
	}
	for n, v := range bad() {
		out[fmt.Sprint("a value that may not be ", n)] = api.Write{Table: "t", Key: fine.Key, Row: row{num(1), v}}
		out[fmt.Sprint("a value in the key that may not be ", n)] = api.Write{Table: "t", Key: fine.Key, Row: row{v, txt("x")}}
	}
	return out
}

// A write that does not fit is refused at any time, and changes nothing.
func TestWriteThatDoesNotFit(t *testing.T) {
	for what, w := range badWrites() {
		y := begin(t, example(), byText(false), line(1, "x"), line(2, "y"))
		is(t, what+" in the beginning", y.write(w), api.ErrRow)
		y.scan(1)
		is(t, what+" on the way", y.write(w), api.ErrRow)
		y.writes(set(0, "z"))
		y.scan(1)
		is(t, what+" in the end", y.write(w), api.ErrRow)
		y.ends(what, row{txt("x"), num(1)}, row{txt("y"), num(2)}, row{txt("z"), num(0)})
	}
}

// What a Gone one has as its Row is not looked at.
func TestWriteOfWhatIsGone(t *testing.T) {
	for n, r := range []row{nil, {}, line(1, "x"), line(2, "x"), {num(1)}, {txt("x")}, {{Kind: 77}}, make(row, 99)} {
		y := begin(t, example(), byText(false), line(1, "x"), line(2, "y"))
		w := cut(1)
		w.Row = r
		if e := y.write(w); e != api.OK {
			t.Error(n, e)
		}
		y.ends(fmt.Sprint("the row ", n), row{txt("y"), num(2)})
	}
	// Of what is not there, ahead of all keys, between them and behind, before and behind the scan.
	y := begin(t, example(), byText(true), line(1, "x"), line(3, "y"))
	for range 3 {
		y.writes(cut(0), cut(2), cut(4), cut(math.MinInt64), cut(math.MaxInt64))
		y.scan(1)
	}
	y.ends("nothing is gone", row{txt("x"), num(1)}, row{txt("y"), num(3)})
	y = begin(t, example(), byText(true))
	y.writes(cut(1), cut(1))
	y.ends("nothing was there")
}

// A key of several columns, of each kind: what fits and what does not.
func TestWriteWithKeysOfEachKind(t *testing.T) {
	for n := 1; n <= 5; n++ {
		x := kinds(n)
		i := api.Index{Name: "i", Columns: []int{4, 0}}
		r := row{yes(1), num(-5), flo(-0.5), pair(complex(1, -2)), txt("a\x00b")}
		y := begin(t, x, i, r)
		is(t, "all", y.write(put("k", n, r...)), api.OK)
		for at := range 5 {
			for _, v := range append(bad(), null(), yes(0), num(1), flo(1), pair(1), txt("q")) {
				other := slices.Clone(r)
				other[at] = v
				y.write(api.Write{Table: "k", Key: keyOf(r[:n]...), Row: other})
				y.write(api.Write{Table: "k", Key: keyOf(other[:n]...), Row: other})
				y.write(api.Write{Table: "k", Key: keyOf(other[:n]...), Row: r})
				y.write(api.Write{Table: "k", Key: keyOf(other[:n]...), Gone: true})
			}
		}
		// All beginnings of the bytes, and each byte turned about.
		whole := keyOf(r...)
		for at := range len(whole) + 1 {
			y.write(api.Write{Table: "k", Key: whole[:at], Gone: true})
			y.write(api.Write{Table: "k", Key: whole[:at], Row: r})
		}
		k := []byte(keyOf(r[:n]...))
		for at := range k {
			for _, b := range []byte{0, 1, 2, 5, 6, 7, 127, 128, 255, k[at] + 1, k[at] ^ 1} {
				own := slices.Clone(k)
				own[at] = b
				y.write(api.Write{Table: "k", Key: string(own), Gone: true})
				y.write(api.Write{Table: "k", Key: string(own), Row: r})
			}
		}
		y.writes(put("k", n, r...))
		y.scan(9)
		y.finish()
	}
}

// Texts in keys: as long as may be, one longer, and with bytes 0.
func TestWriteWithTextsInKeys(t *testing.T) {
	x := api.Table{Name: "s", Columns: []api.Column{{Name: "a", Kind: api.VText}, {Name: "b", Kind: api.VText}}, Key: 2}
	y := begin(t, x, api.Index{Name: "i", Columns: []int{1}})
	for _, v := range rising(api.VText) {
		y.writes(put("s", 2, v, v), put("s", 2, v, txt("")), put("s", 2, txt(""), v), gone("s", v, txt("none")))
	}
	over := txt(strings.Repeat("x", api.MaxText+1))
	is(t, "a text that is too long", y.write(put("s", 2, over, txt(""))), api.ErrRow)
	is(t, "a text that is too long, gone", y.write(gone("s", txt(""), over)), api.ErrRow)
	for _, k := range []string{"\x06a\x00\x01\x06b", "\x06a\x00\x01\x06b\x00", "\x06a\x00\x01\x06b\x00\x02\x00\x01", "\x06a\x00\x02\x00\x01\x06\x00\x01", "\x06a\x00\x01", "\x06a\x00\xff\x00\x01", "\x06a\x00\x01\x06b\x00\x01\x06\x00\x01", "\x06a\x00\x01\x06b\x00\x01\x00"} {
		is(t, fmt.Sprintf("%q", k), y.write(api.Write{Table: "s", Key: k, Gone: true}), api.ErrRow)
	}
	is(t, "bytes that are a key", y.write(api.Write{Table: "s", Key: "\x06a\x00\xff\x00\x01\x06\x00\x01", Gone: true}), api.OK)
	y.finish()
}

// Rows whose keys have more bytes than layer 5 writes or reads at once are rows as others are, and entries have more values than a row.
func TestTheGreatestRows(t *testing.T) {
	x, i := greatest()
	entry := func(last string) row {
		r := slices.Clone(long(last))
		slices.Reverse(r)
		return append(r, long(last)...)
	}
	if _, e := key.Encode(long("b")); e != api.ErrLong {
		t.Fatal("the keys are not too long:", e)
	}
	begin(t, x, i, long("a"), long("b"), long("c")).ends("rows", entry("a"), entry("b"), entry("c"))
	y := begin(t, x, i, long("a"), long("b"), long("c"))
	y.writes(put("g", 32, long("d")...), gone("g", long("b")...), put("g", 32, long("c")...), gone("g", long("none")...))
	y.scan(2)
	y.writes(gone("g", long("a")...), gone("g", long("c")...), put("g", 32, long("0")...), put("g", 32, long("b")...))
	w := put("g", 32, long("d")...)
	for _, k := range []string{w.Key[1:], w.Key[:len(w.Key)-1], w.Key + "\x01", w.Key + "\x06\x00\x01", w.Key[:100] + "\x00" + w.Key[100:], "\x01" + w.Key, keyOf(long("e")...), w.Key + w.Key} {
		is(t, "another key", y.write(api.Write{Table: "g", Key: k, Row: w.Row}), api.ErrRow)
		if k != keyOf(long("e")...) {
			is(t, "another key, gone", y.write(api.Write{Table: "g", Key: k, Gone: true}), api.ErrRow)
		}
	}
	over := long("d")
	over[0] = txt(strings.Repeat("\x00", api.MaxText+1))
	is(t, "a text that is too long", y.write(put("g", 32, over...)), api.ErrRow)
	is(t, "a text that is too long, gone", y.write(gone("g", over...)), api.ErrRow)
	y.ends("writes", entry("0"), entry("b"), entry("d"))
	// Those of just as many bytes as layer 5 takes, and one more.
	for _, more := range []int{0, 1} {
		r := long(strings.Repeat("z", len(keyOf(long("")...))-api.MaxBytes-more))
		is(t, "bytes", len(keyOf(r...)), api.MaxBytes+more)
		y := begin(t, x, i, r)
		y.writes(gone("g", r...), put("g", 32, r...), gone("g", r...))
		y.ends("gone")
	}
}

// Writes of one key several times, ahead of its row's scan and behind it.
func TestWritesOfOneKey(t *testing.T) {
	for _, x := range []struct {
		what   string
		before []api.Write // ahead of the scan of the rows 1 and 2
		behind []api.Write
		want   []row
	}{
		{"nothing", nil, nil, []row{{txt("x"), num(1)}, {txt("y"), num(2)}}},
		{"ahead", []api.Write{set(1, "a")}, nil, []row{{txt("a"), num(1)}, {txt("y"), num(2)}}},
		{"behind", nil, []api.Write{set(1, "a")}, []row{{txt("a"), num(1)}, {txt("y"), num(2)}}},
		{"both", []api.Write{set(1, "a")}, []api.Write{set(1, "b")}, []row{{txt("b"), num(1)}, {txt("y"), num(2)}}},
		{"twice ahead", []api.Write{set(1, "a"), set(1, "b")}, nil, []row{{txt("b"), num(1)}, {txt("y"), num(2)}}},
		{"twice behind", nil, []api.Write{set(1, "a"), set(1, "b")}, []row{{txt("b"), num(1)}, {txt("y"), num(2)}}},
		{"as it was", []api.Write{set(1, "a"), set(1, "x")}, []api.Write{set(2, "a"), set(2, "y")}, []row{{txt("x"), num(1)}, {txt("y"), num(2)}}},
		{"to null", []api.Write{setNull(2)}, nil, []row{{null(), num(2)}, {txt("x"), num(1)}}},
		{"gone ahead", []api.Write{cut(1)}, nil, []row{{txt("y"), num(2)}}},
		{"gone behind", nil, []api.Write{cut(1)}, []row{{txt("y"), num(2)}}},
		{"gone twice", []api.Write{cut(1)}, []api.Write{cut(1)}, []row{{txt("y"), num(2)}}},
		{"gone and back, ahead", []api.Write{cut(1), set(1, "a")}, nil, []row{{txt("a"), num(1)}, {txt("y"), num(2)}}},
		{"gone and back, behind", nil, []api.Write{cut(1), set(1, "a")}, []row{{txt("a"), num(1)}, {txt("y"), num(2)}}},
		{"gone, and back behind", []api.Write{cut(1)}, []api.Write{set(1, "a")}, []row{{txt("a"), num(1)}, {txt("y"), num(2)}}},
		{"gone, and back as it was", []api.Write{cut(1)}, []api.Write{set(1, "x")}, []row{{txt("x"), num(1)}, {txt("y"), num(2)}}},
		{"put and gone, ahead", []api.Write{set(1, "a"), cut(1)}, nil, []row{{txt("y"), num(2)}}},
		{"put, and gone behind", []api.Write{set(1, "a")}, []api.Write{cut(1)}, []row{{txt("y"), num(2)}}},
		{"gone, back and gone", []api.Write{cut(1), set(1, "a")}, []api.Write{cut(1)}, []row{{txt("y"), num(2)}}},
		{"both gone", []api.Write{cut(1)}, []api.Write{cut(2)}, nil},
		{"a new one ahead", []api.Write{set(3, "a")}, nil, []row{{txt("a"), num(3)}, {txt("x"), num(1)}, {txt("y"), num(2)}}},
		{"a new one behind", nil, []api.Write{set(3, "a")}, []row{{txt("a"), num(3)}, {txt("x"), num(1)}, {txt("y"), num(2)}}},
		{"a new one twice", []api.Write{set(3, "a")}, []api.Write{set(3, "z")}, []row{{txt("x"), num(1)}, {txt("y"), num(2)}, {txt("z"), num(3)}}},
		{"a new one that goes", []api.Write{set(3, "a"), set(0, "a")}, []api.Write{cut(3), cut(0)}, []row{{txt("x"), num(1)}, {txt("y"), num(2)}}},
		{"a new one that goes and comes", []api.Write{set(3, "a"), cut(3)}, []api.Write{set(3, "b")}, []row{{txt("b"), num(3)}, {txt("x"), num(1)}, {txt("y"), num(2)}}},
		{"they change places", []api.Write{set(1, "y")}, []api.Write{set(2, "x")}, []row{{txt("x"), num(2)}, {txt("y"), num(1)}}},
	} {
		for _, unique := range []bool{false, true} {
			y := begin(t, example(), byText(unique), line(1, "x"), line(2, "y"))
			y.writes(x.before...)
			y.scan(2)
			y.writes(x.behind...)
			y.ends(x.what, x.want...)
		}
	}
}

func TestFinishWithRowsLeft(t *testing.T) {
	y := begin(t, example(), byText(true), many(0, 3)...)
	for left := 3; left > 0; left-- {
		for range 2 {
			list, e := y.finish()
			if len(list) != 0 || e != api.ErrBuild || !y.b.Open() {
				t.Errorf("%d left: %v, %d", left, list, e)
			}
		}
		y.writes(set(int64(10+left), fmt.Sprint("n", left)))
		y.scan(1)
	}
	y.ends("it stayed open",
		row{txt("n1"), num(11)}, row{txt("n2"), num(12)}, row{txt("n3"), num(13)}, row{txt("x0"), num(0)}, row{txt("x1"), num(1)}, row{txt("x2"), num(2)})
	// Rows that were written over, or are gone, are to be scanned, too; and clashes are not told ahead of it.
	y = begin(t, example(), byText(true), line(1, "x"), line(2, "x"))
	y.writes(cut(1), cut(2), set(3, "z"), set(4, "z"))
	_, e := y.finish()
	is(t, "Finish", e, api.ErrBuild)
	y.scan(1)
	_, e = y.finish()
	is(t, "Finish", e, api.ErrBuild)
	y.clashes("in the end")
}

// closed wants that nothing is done any more, whatever is given.
func closed(t *testing.T, what string, y *both) {
	t.Helper()
	for range 2 {
		is(t, what+": Open", y.b.Open(), false)
		for _, most := range []int{1, 0, -1, math.MaxInt, math.MinInt} {
			if left, e := y.scan(most); left != 0 || e != api.ErrBuild {
				t.Errorf("%s: Scan %d: %d, %d", what, most, left, e)
			}
		}
		for _, w := range []api.Write{set(1, "x"), cut(1), set(99, "new"), {}, {Table: "u"}, {Table: "t", Key: "x", Gone: true}} {
			is(t, what+": Write", y.write(w), api.ErrBuild)
		}
		if list, e := y.finish(); len(list) != 0 || e != api.ErrBuild {
			t.Errorf("%s: Finish: %v, %d", what, list, e)
		}
		is(t, what+": Abandon", y.abandon(), api.ErrBuild)
	}
}

func TestClosed(t *testing.T) {
	rows := []row{line(1, "x"), line(2, "x"), line(3, "y")}
	y := begin(t, example(), byText(false), rows...)
	y.ends("finished", row{txt("x"), num(1)}, row{txt("x"), num(2)}, row{txt("y"), num(3)})
	closed(t, "finished", y)
	y = begin(t, example(), byText(false))
	y.ends("finished without rows")
	closed(t, "finished without rows", y)
	y = begin(t, example(), byText(true), rows...)
	y.clashes("refused")
	closed(t, "refused", y)
	for n := range len(rows) + 1 {
		y = begin(t, example(), byText(true), rows...)
		y.writes(set(7, "q"))
		if n > 0 {
			y.scan(n)
		}
		is(t, "Abandon", y.abandon(), api.OK)
		closed(t, fmt.Sprint("abandoned behind ", n), y)
	}
	y = begin(t, example(), byText(false))
	is(t, "Abandon", y.abandon(), api.OK)
	closed(t, "abandoned without rows", y)
	// What no New has made is not open.
	for _, b := range []*build.Build{nil, {}} {
		left, scan := b.Scan(1)
		list, finish := b.Finish()
		if b.Open() || left != 0 || scan != api.ErrBuild || b.Write(set(1, "x")) != api.ErrBuild || list != nil || finish != api.ErrBuild || b.Abandon() != api.ErrBuild {
			t.Error("what no New has made is open")
		}
	}
}

// Open is true through all that does not end a build.
func TestOpen(t *testing.T) {
	y := begin(t, example(), byText(true), line(1, "x"), line(2, "x"))
	for _, call := range []func(){
		func() { y.scan(0) }, func() { y.write(api.Write{}) }, func() { y.finish() }, func() { y.write(set(5, "x")) }, func() { y.scan(1) }, func() { y.finish() }, func() { y.scan(1) }, func() { y.scan(1) }, func() { y.write(cut(1)) },
	} {
		call()
		is(t, "Open", y.b.Open(), true)
		is(t, "Open again", y.b.Open(), true)
	}
	y.clashes("in the end")
	is(t, "Open in the end", y.b.Open(), false)
}

// Unique or not: rows that clash in the beginning, in the end, on the way, and both.
func TestClashes(t *testing.T) {
	for _, x := range []struct {
		what   string
		rows   []row
		writes []api.Write
		clash  bool
	}{
		{"none", []row{line(1, "x"), line(2, "y")}, nil, false},
		{"in the beginning", []row{line(1, "x"), line(2, "x")}, nil, true},
		{"not side by side", []row{line(1, "x"), line(2, "y"), line(3, "x")}, nil, true},
		{"the first of three", []row{line(1, "a"), line(2, "a"), line(3, "b")}, nil, true},
		{"the last of three", []row{line(1, "a"), line(2, "b"), line(3, "b")}, nil, true},
		{"all of them", []row{line(1, "a"), line(2, "a"), line(3, "a")}, nil, true},
		{"in the beginning alone: put", []row{line(1, "x"), line(2, "x")}, []api.Write{set(1, "y")}, false},
		{"in the beginning alone: gone", []row{line(1, "x"), line(2, "x")}, []api.Write{cut(2)}, false},
		{"in the beginning alone: null", []row{line(1, "x"), line(2, "x")}, []api.Write{setNull(2)}, false},
		{"in the beginning alone: all gone", []row{line(1, "x"), line(2, "x")}, []api.Write{cut(1), cut(2)}, false},
		{"in the end alone: put", []row{line(1, "x"), line(2, "y")}, []api.Write{set(1, "y")}, true},
		{"in the end alone: new", []row{line(1, "x"), line(2, "y")}, []api.Write{set(3, "y")}, true},
		{"in the end alone: two new", nil, []api.Write{set(3, "y"), set(1, "y")}, true},
		{"in the beginning and the end", []row{line(1, "x"), line(2, "x")}, []api.Write{set(3, "y")}, true},
		{"in both, with others", []row{line(1, "x"), line(2, "x")}, []api.Write{set(1, "y"), set(3, "x")}, true},
		{"on the way", []row{line(1, "x"), line(2, "y")}, []api.Write{set(1, "y"), set(2, "x")}, false},
		{"on the way: new", []row{line(1, "x")}, []api.Write{set(2, "x"), cut(1)}, false},
		{"on the way: gone again", []row{line(1, "x")}, []api.Write{set(2, "x"), cut(2)}, false},
		{"gone and back", []row{line(1, "x"), line(2, "x")}, []api.Write{cut(1), set(1, "x")}, true},
		{"the same row again", []row{line(1, "x")}, []api.Write{set(1, "x"), set(1, "x")}, false},
		{"nulls", []row{{num(1), null()}, {num(2), null()}}, []api.Write{setNull(3)}, false},
		{"null and an empty text", []row{{num(1), null()}, line(2, "")}, nil, false},
		{"empty texts", []row{line(1, ""), line(2, "")}, nil, true},
		{"one begins with the other", []row{line(1, "x"), line(2, "x\x00")}, nil, false},
	} {
		for scans := range len(x.writes) + 1 {
			for _, unique := range []bool{false, true} {
				y := begin(t, example(), byText(unique), x.rows...)
				y.writes(x.writes[:scans]...)
				y.scan(99)
				y.writes(x.writes[scans:]...)
				list, e := y.finish()
				if clash := e == api.ErrUnique; clash != (x.clash && unique) || !clash && e != api.OK || clash && len(list) != 0 {
					t.Errorf("%s, unique %t: %s, %d", x.what, unique, brief(list), e)
				}
			}
		}
	}
}

// Indexes of one column, of several, of key columns, of a column twice; a null among several values is enough not to clash.
func TestIndexesOfAllSorts(t *testing.T) {
	x := api.Table{Name: "w", Columns: []api.Column{{Name: "a", Kind: api.VInt}, {Name: "b", Kind: api.VText}, {Name: "c", Kind: api.VInt}, {Name: "d", Kind: api.VText}}, Key: 2}
	r := func(a int64, b string, c, d api.Value) row { return row{num(a), txt(b), c, d} }
	rows := []row{r(1, "a", num(5), txt("s")), r(1, "b", num(5), null()), r(2, "a", null(), txt("s")), r(2, "b", num(5), null()), r(3, "a", num(4), txt("t"))}
	for _, y := range []struct {
		columns []int
		clash   bool
		want    []row
	}{
		{[]int{2}, true, []row{{null(), num(2), txt("a")}, {num(4), num(3), txt("a")}, {num(5), num(1), txt("a")}, {num(5), num(1), txt("b")}, {num(5), num(2), txt("b")}}},
		{[]int{3}, true, []row{{null(), num(1), txt("b")}, {null(), num(2), txt("b")}, {txt("s"), num(1), txt("a")}, {txt("s"), num(2), txt("a")}, {txt("t"), num(3), txt("a")}}},
		{[]int{2, 3}, false, []row{{null(), txt("s"), num(2), txt("a")}, {num(4), txt("t"), num(3), txt("a")}, {num(5), null(), num(1), txt("b")}, {num(5), null(), num(2), txt("b")}, {num(5), txt("s"), num(1), txt("a")}}},
		{[]int{3, 2}, false, []row{{null(), num(5), num(1), txt("b")}, {null(), num(5), num(2), txt("b")}, {txt("s"), null(), num(2), txt("a")}, {txt("s"), num(5), num(1), txt("a")}, {txt("t"), num(4), num(3), txt("a")}}},
		{[]int{0}, true, []row{{num(1), num(1), txt("a")}, {num(1), num(1), txt("b")}, {num(2), num(2), txt("a")}, {num(2), num(2), txt("b")}, {num(3), num(3), txt("a")}}},
		{[]int{1}, true, []row{{txt("a"), num(1), txt("a")}, {txt("a"), num(2), txt("a")}, {txt("a"), num(3), txt("a")}, {txt("b"), num(1), txt("b")}, {txt("b"), num(2), txt("b")}}},
		{[]int{1, 0}, false, []row{{txt("a"), num(1), num(1), txt("a")}, {txt("a"), num(2), num(2), txt("a")}, {txt("a"), num(3), num(3), txt("a")}, {txt("b"), num(1), num(1), txt("b")}, {txt("b"), num(2), num(2), txt("b")}}},
		{[]int{0, 1}, false, []row{{num(1), txt("a"), num(1), txt("a")}, {num(1), txt("b"), num(1), txt("b")}, {num(2), txt("a"), num(2), txt("a")}, {num(2), txt("b"), num(2), txt("b")}, {num(3), txt("a"), num(3), txt("a")}}},
		{[]int{2, 2}, true, []row{{null(), null(), num(2), txt("a")}, {num(4), num(4), num(3), txt("a")}, {num(5), num(5), num(1), txt("a")}, {num(5), num(5), num(1), txt("b")}, {num(5), num(5), num(2), txt("b")}}},
		{[]int{1, 2, 1}, true, []row{{txt("a"), null(), txt("a"), num(2), txt("a")}, {txt("a"), num(4), txt("a"), num(3), txt("a")}, {txt("a"), num(5), txt("a"), num(1), txt("a")}, {txt("b"), num(5), txt("b"), num(1), txt("b")}, {txt("b"), num(5), txt("b"), num(2), txt("b")}}},
	} {
		i := api.Index{Name: "i", Columns: y.columns}
		begin(t, x, i, rows...).ends(fmt.Sprint(y.columns), y.want...)
		// The same by writes alone, from the last to the first.
		z := begin(t, x, i)
		for _, r := range slices.Backward(rows) {
			z.writes(put("w", 2, r...))
		}
		z.ends(fmt.Sprint(y.columns), y.want...)
		i.Unique = true
		if y.clash {
			begin(t, x, i, rows...).clashes(fmt.Sprint(y.columns))
		} else {
			begin(t, x, i, rows...).ends(fmt.Sprint(y.columns), y.want...)
		}
	}
}

// Entries of the values of each kind stand in their order, and just the same values clash: -0 and +0 do not.
func TestEntriesOfEachKind(t *testing.T) {
	for kind := api.VBool; kind <= api.VText; kind++ {
		x := api.Table{Name: "t", Columns: []api.Column{{Name: "a", Kind: api.VInt}, {Name: "b", Kind: kind}}, Key: 1}
		i := api.Index{Name: "i", Columns: []int{1}, Unique: true}
		values := rising(kind)
		want := []row{{null(), num(1000)}, {null(), num(1001)}}
		y := begin(t, x, i, row{num(1000), null()})
		for n, v := range values {
			want = append(want, row{v, num(int64(-n))})
			y.writes(put("t", 1, num(int64(-n)), v))
		}
		y.writes(put("t", 1, num(1001), null()))
		y.ends(fmt.Sprint("the kind ", kind), want...)
		for n, v := range values {
			y := begin(t, x, i)
			for n, v := range values {
				y.writes(put("t", 1, num(int64(n)), v))
			}
			y.writes(put("t", 1, num(-1), v))
			y.clashes(fmt.Sprint("the kind ", kind, " at ", n))
		}
	}
}

// Writes may bring more rows than New takes: Finish tells of all.
func TestMoreRowsThanATableHas(t *testing.T) {
	y := begin(t, example(), byText(true), many(0, api.MaxItems)...)
	b := y.b
	for n := range api.MaxItems {
		if e := b.Write(set(int64(api.MaxItems+n), fmt.Sprint("x", api.MaxItems+n))); e != api.OK {
			t.Fatal(n, e)
		}
	}
	b.Scan(api.MaxItems)
	list, e := b.Finish()
	if len(list) != 2*api.MaxItems || e != api.OK || !slices.IsSortedFunc(list, order) {
		t.Error(len(list), e)
	}
	seen := map[int64]string{}
	for _, r := range list {
		seen[r[1].N] = r[0].S
	}
	for n := range int64(2 * api.MaxItems) {
		if seen[n] != fmt.Sprint("x", n) {
			t.Fatal(n, seen[n])
		}
	}
}
