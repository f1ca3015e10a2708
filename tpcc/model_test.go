package tpcc_test

import (
	"math"
	"math/big"
	"math/rand"
	"slices"
	"testing"

	"hopper/api"
	"hopper/table"
	"hopper/tpcc"
)

// The model is the chapter's words, written out as plainly as may be: tables are lists, in which all is looked for from the front on; what is refused is thrown.

// modelKeys are how many numbers of a row are its key.
var modelKeys = map[string]int{"house": 1, "district": 2, "customer": 3, "item": 1, "stock": 2, "orders": 3, "fresh": 3, "line": 4}

// count is the number of a value; a null counts as 0.
func count(v api.Value) int64 {
	if v.Kind == api.VNull {
		return 0
	}
	return v.N
}

// begins tells whether a row's first numbers are these.
func begins(row []api.Value, key []int64) bool {
	for at, n := range key {
		if count(row[at]) != n {
			return false
		}
	}
	return true
}

func (m tables) under(name string, key ...int64) [][]api.Value {
	var out [][]api.Value
	for _, row := range m[name] {
		if begins(row, key) {
			out = append(out, row)
		}
	}
	return out
}

// read throws what is told of a row that is not there.
func (m tables) read(name string, key ...int64) []api.Value {
	rows := m.under(name, key...)
	if len(rows) == 0 {
		if name == "item" {
			panic(api.ErrItem)
		}
		panic(api.ErrNone)
	}
	return rows[0]
}

func (m tables) take(name string, key ...int64) {
	m[name] = slices.DeleteFunc(m[name], func(row []api.Value) bool { return begins(row, key) })
}

func (m tables) put(name string, row ...int64) {
	m.take(name, row[:modelKeys[name]]...)
	m[name] = append(m[name], whole(row...))
	slices.SortFunc(m[name], func(a, b []api.Value) int {
		for at := range modelKeys[name] {
			if a[at].N != b[at].N {
				if a[at].N < b[at].N {
					return -1
				}
				return 1
			}
		}
		return 0
	})
}

func clone(m tables) tables {
	out := tables{}
	for name, rows := range m {
		out[name] = [][]api.Value{}
		for _, row := range rows {
			out[name] = append(out[name], slices.Clone(row))
		}
	}
	return out
}

// within throws what is told of a number that is no amount.
func within(n int64) int64 {
	if n > great || n < least {
		panic(api.ErrRange)
	}
	return n
}

// change sets a number of a row that is in the model.
func change(row []api.Value, column int, n int64) { row[column] = whole(n)[0] }

func raise(row []api.Value, column int, by int64) {
	change(row, column, within(count(row[column])+by))
}

// modelPart is chapter 22's, by whole numbers of any length.
func modelPart(a, rate int64) int64 {
	if rate < 0 || rate > 1000000 {
		panic(api.ErrRange)
	}
	n := new(big.Int).Mul(big.NewInt(within(a)), big.NewInt(rate))
	sign := int64(n.Sign())
	n.Abs(n).Add(n, big.NewInt(5000)).Quo(n, big.NewInt(10000))
	if n.Cmp(big.NewInt(great)) > 0 {
		panic(api.ErrRange)
	}
	return sign * n.Int64()
}

func modelNew(m tables, a []int64) [][]int64 {
	w, d, c := a[0], a[1], a[2]
	h, s, b := m.read("house", w), m.read("district", w, d), m.read("customer", w, d, c)
	for at := 3; at < len(a); at += 3 {
		m.read("item", a[at])
		m.read("stock", a[at+1], a[at])
	}
	o := count(s[4])
	raise(s, 4, 1)
	m.put("orders", w, d, o, c, int64(len(a)/3-1), 0)
	m.put("fresh", w, d, o)
	sum := int64(0)
	for at := 3; at < len(a); at += 3 {
		i, from, many := a[at], a[at+1], a[at+2]
		stock := m.read("stock", from, i)
		if left := count(stock[2]) - many; left >= 10 {
			change(stock, 2, left)
		} else {
			change(stock, 2, left+91)
		}
		raise(stock, 3, many)
		raise(stock, 4, 1)
		amount := within(count(m.read("item", i)[1]) * many)
		m.put("line", w, d, o, int64(at/3), i, from, many, amount)
		sum += amount
	}
	sum = within(sum)
	taxed := within(sum + modelPart(sum, count(h[1])+count(s[2])))
	return [][]int64{{o, within(taxed - modelPart(taxed, count(b[3])))}}
}

func modelPay(m tables, a []int64) [][]int64 {
	h, s, b := m.read("house", a[0]), m.read("district", a[0], a[1]), m.read("customer", a[0], a[1], a[2])
	raise(h, 2, a[3])
	raise(s, 3, a[3])
	raise(b, 5, a[3])
	raise(b, 4, -a[3])
	raise(b, 6, 1)
	return [][]int64{{count(b[4])}}
}

func modelState(m tables, a []int64) [][]int64 {
	told := [][]int64{{count(m.read("customer", a...)[4])}}
	of := slices.DeleteFunc(m.under("orders", a[0], a[1]), func(row []api.Value) bool { return count(row[3]) != a[2] })
	if len(of) == 0 {
		return told
	}
	last := slices.MaxFunc(of, func(x, y []api.Value) int {
		if x[2].N < y[2].N {
			return -1
		}
		return 1
	})
	told = append(told, []int64{last[2].N, count(last[5]), count(last[4])})
	for _, l := range m.under("line", a[0], a[1], last[2].N) {
		told = append(told, []int64{count(l[4]), count(l[5]), count(l[6]), count(l[7])})
	}
	return told
}

func modelBring(m tables, a []int64) [][]int64 {
	m.read("house", a[0])
	var told [][]int64
	for _, s := range m.under("district", a[0]) {
		w, d := a[0], s[1].N
		rows := m.under("fresh", w, d)
		if len(rows) == 0 {
			continue
		}
		o := rows[0][2].N
		m.take("fresh", w, d, o)
		order := m.read("orders", w, d, o)
		change(order, 5, a[1])
		b := m.read("customer", w, d, count(order[3]))
		sum := int64(0)
		for _, l := range m.under("line", w, d, o) {
			sum += count(l[7])
		}
		raise(b, 4, sum)
		told = append(told, []int64{d, o})
	}
	return told
}

func modelLow(m tables, a []int64) [][]int64 {
	from := max(1, count(m.read("district", a[0], a[1])[4])-20)
	var items []int64
	for _, l := range m.under("line", a[0], a[1]) {
		o, i := l[2].N, count(l[4])
		if o < from || len(m.under("orders", a[0], a[1], o)) == 0 {
			continue
		}
		if count(m.read("stock", a[0], i)[2]) < a[2] && !slices.Contains(items, i) {
			items = append(items, i)
		}
	}
	return [][]int64{{int64(len(items))}}
}

// modelTakes tells whether a call takes these arguments.
func modelTakes(name string, args []api.Value) bool {
	for _, v := range args {
		if v != whole(v.N)[0] {
			return false
		}
	}
	n := len(args)
	switch name {
	case "new":
		ok := n == 6 || n > 6 && n <= 48 && n%3 == 0
		for at := 5; ok && at < n; at += 3 {
			ok = args[at].N >= 1 && args[at].N <= 10
		}
		return ok
	case "pay":
		return n == 4 && args[3].N >= 1 && args[3].N <= great
	case "bring":
		return n == 2 && args[1].N >= 1 && args[1].N <= 10
	case "state", "low":
		return n == 3
	}
	return false
}

// modelCall answers what a call tells, and the tables behind it.
func modelCall(m tables, name string, args []api.Value) (after tables, rows [][]int64, code api.Errno) {
	if !modelTakes(name, args) {
		return m, nil, api.ErrProgram
	}
	defer func() {
		if x := recover(); x != nil {
			after, rows, code = m, nil, x.(api.Errno)
		}
	}()
	var numbers []int64
	for _, v := range args {
		numbers = append(numbers, v.N)
	}
	own := clone(m)
	rows = map[string]func(tables, []int64) [][]int64{"new": modelNew, "pay": modelPay, "state": modelState, "bring": modelBring, "low": modelLow}[name](own, numbers)
	for _, list := range own {
		if len(list) > api.MaxItems {
			panic(api.ErrLong)
		}
	}
	return own, rows, api.OK
}

func modelSound(m tables) api.Errno {
	ok := true
	for _, s := range m["district"] {
		next := int64(1)
		for at, order := range m.under("orders", s[0].N, s[1].N) {
			if at == 0 || order[2].N >= next-1 {
				next = order[2].N + 1
			}
		}
		paid := int64(0)
		for _, b := range m.under("customer", s[0].N, s[1].N) {
			paid += count(b[5])
		}
		ok = ok && count(s[4]) == next && count(s[3]) == paid
	}
	for _, f := range m["fresh"] {
		of := m.under("orders", f[0].N, f[1].N, f[2].N)
		ok = ok && len(of) == 1 && count(of[0][5]) == 0
	}
	for _, order := range m["orders"] {
		of := m.under("line", order[0].N, order[1].N, order[2].N)
		ok = ok && count(order[4]) == int64(len(of))
		for n := range of {
			ok = ok && len(m.under("line", order[0].N, order[1].N, order[2].N, int64(n+1))) == 1
		}
	}
	for _, h := range m["house"] {
		ytd := int64(0)
		for _, s := range m.under("district", h[0].N) {
			ytd += count(s[3])
		}
		ok = ok && count(h[2]) == ytd
	}
	for _, b := range m["customer"] {
		sum := int64(0)
		for _, order := range m.under("orders", b[0].N, b[1].N) {
			for _, l := range m.under("line", b[0].N, b[1].N, order[2].N) {
				if count(order[3]) == b[2].N && count(order[5]) != 0 {
					sum += count(l[7])
				}
			}
		}
		ok = ok && count(b[4])+count(b[5]) == sum
	}
	for _, s := range m["stock"] {
		many, lines := int64(0), int64(0)
		for _, l := range m["line"] {
			if count(l[5]) == s[0].N && count(l[4]) == s[1].N {
				many += count(l[6])
				lines++
			}
		}
		ok = ok && count(s[3]) == many && count(s[4]) == lines
	}
	if !ok {
		return api.ErrShape
	}
	return api.OK
}

// Drawn scripts.

// near answers a number from 1 to most for the most part, else one beside these.
func near(r *rand.Rand, most int64) int64 {
	switch r.Intn(60) {
	case 0:
		return r.Int63n(5) - 1 + most
	case 1:
		return -r.Int63n(2)
	case 2:
		return edges()[r.Intn(len(edges()))]
	}
	return r.Int63n(most) + 1
}

// drawCall answers one that is right for the most part, in books of such a size.
func drawCall(r *rand.Rand, size [4]int64) (string, []api.Value) {
	w, d, c := near(r, size[0]), near(r, size[1]), near(r, size[2])
	name, list := "", []int64{}
	switch r.Intn(13) {
	case 0, 1, 2, 3, 4:
		name, list = "new", []int64{w, d, c}
		for range r.Intn(5) + 1 {
			list = append(list, near(r, size[3]), near(r, size[0]), near(r, 10))
		}
		if r.Intn(20) == 0 {
			for range r.Intn(13) {
				list = append(list, 1, w, near(r, 10))
			}
		}
	case 5, 6:
		a := r.Int63n(100000) + 1
		if r.Intn(10) == 0 {
			a = near(r, great)
		}
		name, list = "pay", []int64{w, d, c, a}
	case 7:
		name, list = "state", []int64{w, d, c}
	case 8, 9, 10:
		name, list = "bring", []int64{w, near(r, 10)}
	case 11:
		name, list = "low", []int64{w, d, near(r, 60)}
	case 12:
		name = []string{"new", "pay", "state", "bring", "low", "", "x"}[r.Intn(7)]
		for range r.Intn(8) {
			list = append(list, near(r, 3))
		}
	}
	values := whole(list...)
	if len(values) > 0 && r.Intn(100) == 0 {
		values[r.Intn(len(values))] = []api.Value{{}, {Kind: api.VBool, N: 1}, {Kind: api.VInt, N: 1, S: "x"}, {Kind: api.VText}, {Kind: 7}}[r.Intn(5)]
	}
	return name, values
}

// drawChange does what others may do: a row of the books comes, goes, or is changed.
func drawChange(r *rand.Rand, d *table.Data) {
	x := schemas()[r.Intn(8)]
	rows, _ := d.Rows(x.Name)
	row := make([]api.Value, len(x.Columns))
	for at := range row {
		row[at] = whole(r.Int63n(4))[0]
		if at >= x.Key && r.Intn(3) == 0 {
			row[at] = null
		}
		if r.Intn(6) == 0 {
			row[at] = whole(edges()[r.Intn(len(edges()))])[0]
		}
	}
	if len(rows) > 0 && r.Intn(4) != 0 {
		old := rows[r.Intn(len(rows))]
		if r.Intn(4) == 0 {
			d.Apply([]api.Op{{Kind: api.ODelete, Table: x.Name, Key: old[:x.Key]}})
			return
		}
		if x.Key < len(row) {
			at := x.Key + r.Intn(len(row)-x.Key)
			old[at] = row[at]
			if r.Intn(2) == 0 {
				old[at] = whole(great - r.Int63n(4000))[0]
			}
		}
		row = old
	}
	d.Apply([]api.Op{{Kind: api.OPut, Table: x.Name, Row: row}})
}

// run does so many calls of a drawn script, and holds them against the model.
func run(t *testing.T, seed int64, calls, changes int, told map[api.Errno]int) {
	r := rand.New(rand.NewSource(seed))
	size := [4]int64{r.Int63n(3) + 1, r.Int63n(3) + 1, r.Int63n(3) + 1, r.Int63n(6) + 1}
	d := load(t, int(size[0]), int(size[1]), int(size[2]), int(size[3]))
	for range calls {
		for range changes {
			if r.Intn(3) == 0 {
				drawChange(r, d)
			}
		}
		name, args := drawCall(r, size)
		after, rows, code := modelCall(all(d), name, args)
		got, done := tpcc.Call(d, name, args)
		if got.Code != code || done != (code == api.OK) || !sameRows(got.Rows, rowsOf(rows)) {
			t.Errorf("seed %d: %s %s: %d %s %v, not %d %d", seed, name, shown([][]api.Value{args}), got.Code, shown(got.Rows), done, code, rows)
		}
		if x := differ(all(d), after); x != "" {
			t.Errorf("seed %d: %s %s: %s", seed, name, shown([][]api.Value{args}), x)
		}
		sound := modelSound(after)
		if e := tpcc.Sound(d); e != sound {
			t.Errorf("seed %d: Sound: %d, not %d", seed, e, sound)
		}
		// 23.4.
		if changes == 0 && sound != api.OK {
			t.Errorf("seed %d: the books are not sound behind %s %s", seed, name, shown([][]api.Value{args}))
		}
		told[code]++
		told[1000+sound]++
		if t.Failed() {
			t.FailNow()
		}
	}
}

// 23.4: books are sound behind any calls.
func TestDrawnCalls(t *testing.T) {
	told := map[api.Errno]int{}
	for seed := range int64(300) {
		run(t, seed, 60, 0, told)
	}
	for e, n := range map[api.Errno]int{api.OK: 5000, api.ErrNone: 500, api.ErrItem: 100, api.ErrProgram: 500, api.ErrRange: 10} {
		if told[e] < n {
			t.Error(e, told)
		}
	}
}

// Books that others change between calls.
func TestDrawnCallsInOthersBooks(t *testing.T) {
	told := map[api.Errno]int{}
	for seed := range int64(1500) {
		run(t, seed, 20, int(seed%4)+1, told)
	}
	for e, n := range map[api.Errno]int{api.OK: 5000, api.ErrNone: 500, api.ErrItem: 100, api.ErrProgram: 500, api.ErrRange: 500, 1000: 100, 1000 + api.ErrShape: 1000} {
		if told[e] < n {
			t.Error(e, told)
		}
	}
}

// Books with numbers at their edges alone: all that wraps.
func TestDrawnEdges(t *testing.T) {
	told := map[api.Errno]int{}
	sharp := []int64{0, 1, -1, 2, great, least, math.MaxInt64, math.MinInt64, 1 << 62, 1 << 61, 1 << 60, math.MinInt64 + 1}
	for seed := range int64(3000) {
		r := rand.New(rand.NewSource(seed))
		draw := func() int64 { return sharp[r.Intn(len(sharp))] }
		d := load(t, 1, 1, 1, 2)
		for range r.Intn(4) {
			x := schemas()[r.Intn(5)]
			rows, _ := d.Rows(x.Name)
			row := rows[r.Intn(len(rows))]
			row[x.Key+r.Intn(len(row)-x.Key)] = whole(draw())[0]
			putRow(t, d, x.Name, row)
		}
		for o := range int64(r.Intn(3)) {
			put(t, d, "orders", 1, 1, o, 1, 2, 0)
			put(t, d, "fresh", 1, 1, o)
			put(t, d, "line", 1, 1, o, 1, 1, 1, draw(), draw())
			put(t, d, "line", 1, 1, o, 2, 2, 1, draw(), draw())
		}
		for range 6 {
			name, args := drawCall(r, [4]int64{1, 1, 1, 2})
			after, rows, code := modelCall(all(d), name, args)
			got, done := tpcc.Call(d, name, args)
			if got.Code != code || done != (code == api.OK) || !sameRows(got.Rows, rowsOf(rows)) {
				t.Errorf("seed %d: %s %s: %d %s %v, not %d %d", seed, name, shown([][]api.Value{args}), got.Code, shown(got.Rows), done, code, rows)
			}
			if x := differ(all(d), after); x != "" {
				t.Errorf("seed %d: %s %s: %s", seed, name, shown([][]api.Value{args}), x)
			}
			if e := tpcc.Sound(d); e != modelSound(after) {
				t.Errorf("seed %d: Sound: %d", seed, e)
			}
			told[code]++
			if t.Failed() {
				t.FailNow()
			}
		}
	}
	for e, n := range map[api.Errno]int{api.OK: 1000, api.ErrRange: 500} {
		if told[e] < n {
			t.Error(e, told)
		}
	}
}
