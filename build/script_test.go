package build_test

import (
	"fmt"
	"math"
	"math/rand"
	"slices"
	"testing"

	"hopper/api"
	"hopper/build"
)

// 21.4: in whatever order scans and writes come, what is finished follows from the rows now.

// act is a call of a build.
type act struct {
	scan  int // 0: a write
	write api.Write
}

func (y *both) do(a act) {
	y.t.Helper()
	if a.scan != 0 {
		y.scan(a.scan)
		return
	}
	y.writes(a.write)
}

// Each script of a few acts, one after the other, on the rows 1 and 2, of whose keys and the key 3 all is written.
func TestAllShortScripts(t *testing.T) {
	acts := []act{{scan: 1}}
	for n := int64(1); n <= 3; n++ {
		acts = append(acts, act{write: set(n, "x")}, act{write: set(n, "y")}, act{write: cut(n)})
	}
	refused := 0
	for _, rows := range [][]row{{line(1, "x"), line(2, "x")}, {line(1, "x"), line(2, "y")}} {
		for _, unique := range []bool{false, true} {
			for length := range 5 {
				scripts := int(math.Pow(float64(len(acts)), float64(length)))
				for script := range scripts {
					y := begin(t, example(), byText(unique), rows...)
					for n, rest := 0, script; n < length; n, rest = n+1, rest/len(acts) {
						y.do(acts[rest%len(acts)])
					}
					y.scan(2)
					if _, e := y.finish(); e == api.ErrUnique {
						refused++
					}
					if t.Failed() {
						t.Fatal("script", script, "of", length)
					}
				}
			}
		}
	}
	if refused < 5000 {
		t.Errorf("%d were refused alone", refused)
	}
}

// The writes stand in one order; wherever scans come between them, the same is finished.
func TestScansAnywhere(t *testing.T) {
	writes := []api.Write{set(2, "b"), cut(1), set(5, "x"), set(1, "c"), cut(3), cut(2), set(3, "x"), setNull(4), set(2, "y")}
	want := []row{{null(), num(4)}, {txt("c"), num(1)}, {txt("x"), num(3)}, {txt("x"), num(5)}, {txt("y"), num(2)}}
	rows := []row{line(1, "x"), line(2, "x"), line(3, "a"), line(4, "z")}
	// Ahead of each write none, one or two rows are scanned.
	for script := range int(math.Pow(3, float64(len(writes)))) {
		y := begin(t, example(), byText(false), rows...)
		rest := script
		for _, w := range writes {
			if rest%3 > 0 {
				y.scan(rest % 3)
			}
			rest /= 3
			y.writes(w)
		}
		y.ends(fmt.Sprint("script ", script), want...)
		if t.Failed() {
			return
		}
	}
}

// What is drawn: from few values, so that they meet again.

func drawValue(r *rand.Rand, kind int) api.Value {
	if kind == api.VNull {
		return null()
	}
	list := rising(kind)
	return list[r.Intn(min(len(list), 7))]
}

func drawSchema(r *rand.Rand) api.Table {
	x := api.Table{Name: string("abc"[r.Intn(3)])}
	for i := range 1 + r.Intn(5) {
		kind := 1 + r.Intn(5)
		if r.Intn(3) == 0 {
			kind = api.VInt
		}
		x.Columns = append(x.Columns, api.Column{Name: fmt.Sprint("c", i), Kind: kind})
	}
	x.Key = 1 + r.Intn(min(3, len(x.Columns)))
	for i := range r.Intn(4) {
		x.Indexes = append(x.Indexes, drawIndex(r, fmt.Sprint("i", i), len(x.Columns)))
	}
	return x
}

func drawIndex(r *rand.Rand, name string, columns int) api.Index {
	i := api.Index{Name: name, Unique: r.Intn(2) == 0}
	for range 1 + r.Intn(3) {
		i.Columns = append(i.Columns, r.Intn(columns))
	}
	return i
}

func drawRow(r *rand.Rand, x api.Table) row {
	out := row{}
	for at, c := range x.Columns {
		kind := c.Kind
		if at >= x.Key && r.Intn(6) == 0 {
			kind = api.VNull
		}
		out = append(out, drawValue(r, kind))
	}
	return out
}

// drawRows mostly draws rows that stand in order.
func drawRows(r *rand.Rand, x api.Table) (out []row) {
	for range r.Intn(12) {
		out = append(out, drawRow(r, x))
	}
	if r.Intn(20) > 0 {
		byKey := func(a, b row) int { return order(a[:x.Key], b[:x.Key]) }
		slices.SortStableFunc(out, byKey)
		out = slices.CompactFunc(out, func(a, b row) bool { return byKey(a, b) == 0 })
	}
	if len(out) > 0 && r.Intn(20) == 0 {
		at := r.Intn(len(out))
		out[at] = slices.Clone(out[at])
		out[at][r.Intn(len(out[at]))] = bad()[r.Intn(len(bad()))]
	}
	return out
}

// drawWrite mostly draws one that fits.
func drawWrite(r *rand.Rand, x api.Table) api.Write {
	values := drawRow(r, x)
	w := put(x.Name, x.Key, values...)
	if r.Intn(3) == 0 {
		w = gone(x.Name, values[:x.Key]...)
	}
	if r.Intn(6) > 0 {
		return w
	}
	switch r.Intn(7) {
	case 0:
		w.Table = "other"
	case 1:
		w.Key = w.Key[:r.Intn(len(w.Key))]
	case 2:
		k := []byte(w.Key)
		k[r.Intn(len(k))] = byte(r.Intn(256))
		w.Key = string(k)
	case 3:
		w.Row = drawRow(r, x)
	case 4:
		w.Row = append(slices.Clone(w.Row), null())
	case 5:
		w.Key += keyOf(drawValue(r, r.Intn(6)))
	case 6:
		if len(w.Row) > 0 {
			w.Row = slices.Clone(w.Row)
			w.Row[r.Intn(len(w.Row))] = drawValue(r, r.Intn(6))
		}
	}
	return w
}

// drawNew draws what New takes, mostly what it does not refuse.
func drawNew(r *rand.Rand) (api.Table, api.Index, []row) {
	x := drawSchema(r)
	i := drawIndex(r, "new", len(x.Columns))
	rows := drawRows(r, x)
	switch r.Intn(25) {
	case 0:
		i.Name = []string{"i0", "i1", "", "I"}[r.Intn(4)]
	case 1:
		i.Columns[0] = []int{-1, len(x.Columns), math.MaxInt}[r.Intn(3)]
	case 2:
		x.Key = r.Intn(8) - 1
	}
	return x, i, rows
}

// counts tells how often each call had each code: what was never drawn shows nothing.
type counts map[string]map[api.Errno]int

func (c counts) count(call string, e api.Errno) {
	if c[call] == nil {
		c[call] = map[api.Errno]int{}
	}
	c[call][e]++
}

// each fails unless a call had just these codes, and often.
func (c counts) each(t *testing.T, call string, least int, want ...api.Errno) {
	t.Helper()
	for e, n := range c[call] {
		if !slices.Contains(want, e) {
			t.Errorf("%s: %d was told %d times", call, e, n)
		}
	}
	for _, e := range want {
		if c[call][e] < least {
			t.Errorf("%s: %d was told %d times alone", call, e, c[call][e])
		}
	}
}

func drawMost(r *rand.Rand) int {
	return []int{1, 1, 1, 2, 3, 5, 0, -1, math.MaxInt, math.MinInt}[r.Intn(10)]
}

// step does one drawn call.
func (y *both) step(r *rand.Rand, seen counts) {
	y.t.Helper()
	switch n := r.Intn(40); {
	case n < 12:
		_, e := y.scan(drawMost(r))
		seen.count("Scan", e)
	case n < 36:
		seen.count("Write", y.write(drawWrite(r, y.m.schema)))
	case n < 39:
		if y.m.left == 0 && r.Intn(3) > 0 {
			return
		}
		_, e := y.finish()
		seen.count("Finish", e)
	default:
		if r.Intn(4) == 0 {
			seen.count("Abandon", y.abandon())
		}
	}
}

func TestScriptsLikeTheModel(t *testing.T) {
	t.Parallel()
	seen := counts{}
	for seed := range int64(12000) {
		r := rand.New(rand.NewSource(seed))
		x, i, rows := drawNew(r)
		b, e := build.New(x, i, rows)
		m, want := modelNew(x, i, rows)
		if e != want || (b != nil) != (e == api.OK) {
			t.Fatalf("seed %d: New %s, %s, %s: %d, not %d", seed, brief(x), brief(i), brief(rows), e, want)
		}
		seen.count("New", e)
		if e != api.OK {
			continue
		}
		y := &both{t, b, m}
		for range 3 + r.Intn(50) {
			y.step(r, seen)
		}
		y.scan(math.MaxInt)
		_, e = y.finish()
		seen.count("Finish", e)
		if t.Failed() {
			t.Fatalf("seed %d", seed)
		}
	}
	seen.each(t, "New", 50, api.OK, api.ErrSchema, api.ErrThere, api.ErrRow)
	seen.each(t, "Scan", 1000, api.OK, api.ErrRange, api.ErrBuild)
	seen.each(t, "Write", 1000, api.OK, api.ErrRow, api.ErrBuild)
	seen.each(t, "Finish", 1000, api.OK, api.ErrUnique, api.ErrBuild)
	seen.each(t, "Abandon", 50, api.OK, api.ErrBuild)
}

// R5: calls that are refused change nothing: a build that has them besides finishes what its twin without them does.
func TestRefusedCallsChangeNothing(t *testing.T) {
	t.Parallel()
	finished := 0
	for seed := range int64(1500) {
		r := rand.New(rand.NewSource(seed))
		x, i, rows := drawNew(r)
		b, e := build.New(x, i, rows)
		if e != api.OK {
			continue
		}
		twin, _ := build.New(x, i, rows)
		for range 40 {
			if r.Intn(3) == 0 {
				most := 1 + r.Intn(2)
				left, _ := b.Scan(most)
				other, _ := twin.Scan(most)
				is(t, "left", left, other)
				continue
			}
			w := drawWrite(r, x)
			if b.Write(w) == api.OK {
				is(t, "Write", twin.Write(w), api.OK)
			}
			if _, e := b.Scan(-r.Intn(2)); e != api.ErrRange {
				t.Fatal("Scan:", e)
			}
		}
		if left, _ := b.Scan(1); left > 0 {
			if _, e := b.Finish(); e != api.ErrBuild {
				t.Fatal("Finish:", e)
			}
		}
		b.Scan(math.MaxInt)
		twin.Scan(math.MaxInt)
		list, e := b.Finish()
		other, want := twin.Finish()
		if e != want || text(list) != text(other) {
			t.Fatalf("seed %d: %s, %d, not %s, %d", seed, brief(list), e, brief(other), want)
		}
		if e == api.OK && len(list) > 0 {
			finished++
		}
	}
	if finished < 300 {
		t.Errorf("%d were finished alone", finished)
	}
}

// Many rows and many writes, in pieces of all sizes.
func TestManyRowsAndWrites(t *testing.T) {
	t.Parallel()
	for _, unique := range []bool{false, true} {
		r := rand.New(rand.NewSource(21))
		rows := many(0, api.MaxItems)
		b, _ := build.New(example(), byText(unique), rows)
		now := map[int64]api.Value{}
		for _, x := range rows {
			now[x[0].N] = x[1]
		}
		left, free := api.MaxItems, int64(0)
		for left > 0 {
			most := 1 + r.Intn(20)
			got, e := b.Scan(most)
			left = max(0, left-most)
			if got != left || e != api.OK {
				t.Fatal(got, left, e)
			}
			for range 20 {
				k := int64(r.Intn(api.MaxItems + 500))
				if r.Intn(2) == 0 {
					is(t, "Write", b.Write(cut(k)), api.OK)
					delete(now, k)
					continue
				}
				free++
				s := fmt.Sprint("y", free)
				is(t, "Write", b.Write(set(k, s)), api.OK)
				now[k] = txt(s)
			}
		}
		var want []row
		for k, v := range now {
			want = append(want, row{v, num(k)})
		}
		slices.SortFunc(want, order)
		list, e := b.Finish()
		if e != api.OK || text(list) != text(want) {
			t.Errorf("unique %t: %d, %d entries, not %d", unique, e, len(list), len(want))
		}
	}
}

// P1: whatever is given, no call panics, and all tell what the model does.
func TestNothingPanics(t *testing.T) {
	r := rand.New(rand.NewSource(211))
	numbers := []int{0, 1, -1, 2, 6, 8, 32, 33, math.MaxInt, math.MinInt}
	number := func() int { return numbers[r.Intn(len(numbers))] }
	name := func() string { return []string{"", "a", "b", "t", "\x00", "A", "i"}[r.Intn(7)] }
	list := func() (out row) {
		for range r.Intn(4) {
			v := drawValue(r, r.Intn(6))
			if r.Intn(4) == 0 {
				v = bad()[r.Intn(len(bad()))]
			}
			out = append(out, v)
		}
		return out
	}
	for range 20000 {
		x := api.Table{Name: name(), Key: number()}
		for range r.Intn(3) {
			x.Columns = append(x.Columns, api.Column{Name: name(), Kind: number()})
		}
		i := api.Index{Name: name(), Columns: []int{number(), number()}[:r.Intn(3)], Unique: r.Intn(2) == 0}
		var rows []row
		for range r.Intn(3) {
			rows = append(rows, list())
		}
		_, e := build.New(x, i, rows)
		if _, want := modelNew(x, i, rows); e != want {
			t.Fatalf("New %s, %s, %s: %d, not %d", brief(x), brief(i), brief(rows), e, want)
		}
		y := begin(t, example(), byText(r.Intn(2) == 0), many(0, r.Intn(3))...)
		for range 5 {
			y.scan(number())
			k := keyOf(list()...)
			if r.Intn(2) == 0 {
				k = keyOf(num(int64(r.Intn(3))))
			}
			y.write(api.Write{Table: name(), Key: k, Gone: r.Intn(2) == 0, Row: list()})
		}
		y.finish()
	}
}
