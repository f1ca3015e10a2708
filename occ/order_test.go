package occ_test

import (
	"fmt"
	"math/rand"
	"testing"

	"hopper/api"
)

// 16.4: drawn scripts.

// drawn draws operations on few rows with few values, so that transactions meet.
type drawn struct {
	*rand.Rand
	keys, values int64
	writes       int // of ten operations so many write
}

func (r drawn) value() api.Value {
	if r.Intn(8) == 0 {
		return null()
	}
	return num(r.Int63n(r.values))
}

func (r drawn) text() api.Value {
	if r.Intn(8) == 0 {
		return null()
	}
	return txt([]string{"", "x", "y", "z\x00"}[r.Intn(4)])
}

func (r drawn) limit() int { return []int{1, 1, 2, 3, 5, most}[r.Intn(6)] }

func (r drawn) rowOf(y api.Table) row {
	var list row
	for i, c := range y.Columns {
		switch {
		case i < y.Key:
			list = append(list, r.keyValue(c.Kind))
		case c.Kind == api.VText:
			list = append(list, r.text())
		default:
			list = append(list, r.value())
		}
	}
	return list
}

func (r drawn) keyValue(kind int) api.Value {
	if kind == api.VText {
		return txt([]string{"p", "q"}[r.Intn(2)])
	}
	return num(r.Int63n(r.keys))
}

func (r drawn) keyOf(y api.Table, n int) row {
	var list row
	for _, c := range y.Columns[:n] {
		list = append(list, r.keyValue(c.Kind))
	}
	return list
}

func (r drawn) op(y api.Table) api.Op {
	if r.Intn(60) == 0 {
		return r.wrong(y)
	}
	if r.Intn(10) < r.writes {
		switch r.Intn(4) {
		case 0:
			return put(y.Name, r.rowOf(y)...)
		case 1:
			if r.Intn(3) == 0 {
				return insert(y.Name, r.rowOf(y)...)
			}
			return put(y.Name, r.rowOf(y)...)
		case 2:
			return del(y.Name, r.keyOf(y, y.Key)...)
		}
		if r.Intn(2) == 0 {
			return put(y.Name, r.rowOf(y)...)
		}
		return add(y.Name, r.intColumn(y), r.Int63n(3)-1, r.keyOf(y, y.Key)...)
	}
	switch n := r.Intn(4); {
	case n == 0:
		return get(y.Name, r.keyOf(y, y.Key)...)
	case n == 1 && len(y.Indexes) > 0:
		x := y.Indexes[r.Intn(len(y.Indexes))]
		var list row
		for _, c := range x.Columns {
			list = append(list, r.rowOf(y)[c])
		}
		return api.Op{Kind: api.OFind, Table: y.Name, Index: x.Name, Key: list, Limit: r.limit()}
	default:
		return scanFrom(y.Name, r.keyOf(y, r.Intn(y.Key+1)), r.keyOf(y, r.Intn(y.Key+1)), r.limit())
	}
}

func (r drawn) intColumn(y api.Table) int {
	for {
		if at := y.Key + r.Intn(len(y.Columns)-y.Key); y.Columns[at].Kind == api.VInt {
			return at
		}
	}
}

func (r drawn) wrong(y api.Table) api.Op {
	return []api.Op{
		{}, {Kind: 8, Table: y.Name}, get("nobody", num(1)), get(y.Name), put(y.Name, num(1)), insert(y.Name), del(y.Name, null()),
		{Kind: api.OScan, Table: y.Name}, scanFrom(y.Name, row{txt("x"), txt("x"), txt("x")}, nil, 1), find(y.Name, "none"), find(y.Name, "i"),
		add(y.Name, 0, 1, r.keyOf(y, y.Key)...), add(y.Name, 1<<40, 1, r.keyOf(y, y.Key)...), add(y.Name, r.intColumn(y), 1<<63-1, r.keyOf(y, y.Key)...),
	}[r.Intn(14)]
}

func (r drawn) batch(tables []api.Table, longest int) []api.Op {
	var ops []api.Op
	for range r.Intn(longest + 1) {
		ops = append(ops, r.op(tables[r.Intn(len(tables))]))
	}
	return ops
}

// play lets workers begin and take steps as they are drawn; now and then the epoch rises, and past ones are looked at.
func (x *script) play(r drawn, tables []api.Table, length, longest int) {
	x.Helper()
	for range length {
		w := r.Intn(x.many)
		switch n := r.Intn(100); {
		case n < 3:
			x.s.Advance()
		case n < 4:
			x.entries()
		case n < 5:
			x.look(r.Intn(x.s.Snapshot() + 1))
		case x.at[w] == nil:
			x.begin(w, r.batch(tables, longest)...)
		case n < 60:
			x.step(w)
		default:
			// Some of a worker's steps stand side by side.
			for range 1 + r.Intn(30) {
				if x.step(w) {
					break
				}
			}
		}
	}
}

func TestDrawnScripts(t *testing.T) {
	kinds := []struct {
		tables              []api.Table
		many, longest, size int
		keys, values        int64
		writes              int
	}{
		{[]api.Table{numbers("t", false)}, 2, 3, 300, 3, 3, 6},
		{[]api.Table{numbers("t", true)}, 3, 3, 300, 4, 4, 6},
		{[]api.Table{numbers("t", true)}, 16, 2, 600, 6, 6, 7},
		{[]api.Table{numbers("t", false), numbers("u", true)}, 4, 4, 500, 4, 4, 5},
		{[]api.Table{wide()}, 3, 4, 500, 3, 4, 6},
		{[]api.Table{wide(), numbers("t", true)}, 8, 6, 900, 10, 9, 3},
		{[]api.Table{numbers("t", false)}, 5, 4, 700, 60, 5, 6},
		{[]api.Table{numbers("t", true), numbers("u", false)}, 4, 12, 900, 30, 40, 5},
		{[]api.Table{wide()}, 2, 30, 900, 5, 5, 5},
	}
	for i, k := range kinds {
		t.Run(fmt.Sprint(i), func(t *testing.T) {
			t.Parallel()
			committed, refused, aborted := 0, 0, 0
			for seed := range 100 {
				r := drawnOf(int64(1000*i+seed), k.keys, k.values, k.writes)
				x := newScript(t, k.many, k.tables...)
				x.play(r, k.tables, k.size, k.longest)
				x.verify()
				for _, b := range x.begun {
					switch {
					case b.out.Committed:
						committed++
					case b.out.Step > 0:
						refused++
					default:
						aborted++
					}
				}
			}
			t.Logf("%d committed, %d refused, %d aborted", committed, refused, aborted)
			if committed == 0 || refused == 0 || aborted == 0 {
				t.Error("the scripts do not show all three ends")
			}
		})
	}
}

func drawnOf(seed, keys, values int64, writes int) drawn {
	return drawn{rand.New(rand.NewSource(seed)), keys, values, writes}
}
