package server_test

import (
	"fmt"
	"math/rand"
	"testing"

	"hopper/api"
	"hopper/disk"
	"hopper/tpcc"
)

// 27.6 to 27.8: drawn scripts, beside what the chapter says.

type drawn struct {
	*rand.Rand
	tables []api.Table
	id     int
}

func drawnOf(seed int64) *drawn {
	return &drawn{Rand: rand.New(rand.NewSource(seed)), tables: []api.Table{plain("p"), plain("q"), indexed("u")}}
}

func (r *drawn) table() api.Table { return r.tables[r.Intn(len(r.tables))] }

func (r *drawn) value(kind int) api.Value {
	if kind == api.VText {
		return txt([]string{"", "x", "y", "z\x00"}[r.Intn(4)])
	}
	return num(r.Int63n(6))
}

func (r *drawn) row(t api.Table) (list row) {
	for at, c := range t.Columns {
		v := r.value(c.Kind)
		if at >= t.Key && r.Intn(6) == 0 {
			v = null()
		}
		list = append(list, v)
	}
	return list
}

func (r *drawn) question() api.Op {
	t := r.table()
	switch r.Intn(8) {
	case 0, 1:
		return scan(t.Name)
	case 2:
		return api.Op{Kind: api.OScan, Table: t.Name, Key: r.row(t)[:1], To: r.row(t)[:1], Limit: 1 + r.Intn(3)}
	case 3:
		return find("u", "i", r.value(api.VText))
	case 4:
		return []api.Op{get("nobody", num(1)), get(t.Name), {Kind: api.OScan, Table: t.Name}, find(t.Name, "none")}[r.Intn(4)]
	}
	return get(t.Name, r.row(t)[:1]...)
}

func (r *drawn) ops(longest int) (list []api.Op) {
	for range r.Intn(longest + 1) {
		t := r.table()
		switch r.Intn(9) {
		case 0, 1, 2:
			list = append(list, put(t.Name, r.row(t)...))
		case 3:
			list = append(list, insert(t.Name, r.row(t)...))
		case 4:
			list = append(list, del(t.Name, r.row(t)[:1]...))
		case 5, 6:
			list = append(list, add(t.Name, 1, r.Int63n(5)-2, r.row(t)[:1]...))
		default:
			list = append(list, r.question())
		}
	}
	return list
}

func (r *drawn) questions(longest int) (list []api.Op) {
	for range r.Intn(longest + 1) {
		list = append(list, r.question())
	}
	if r.Intn(12) == 0 {
		list = append(list, put("p", num(1), num(1)))
	}
	return list
}

func (r *drawn) request() api.Request {
	r.id++
	switch n := r.Intn(20); {
	case n == 0:
		return drop(r.id, r.table().Name)
	case n < 4:
		return create(r.id, r.table())
	case n < 7:
		return query(r.id, r.questions(4)...)
	case n < 10:
		return r.call()
	}
	return batch(r.id, r.ops(5)...)
}

func (r *drawn) call() api.Request {
	w, d, c := int64(1), 1+r.Int63n(2), 1+r.Int63n(4)
	switch r.Intn(6) {
	case 0:
		return call(r.id, "pay", w, d, c, 1+r.Int63n(1000))
	case 1:
		return call(r.id, "bring", w, 1+r.Int63n(11))
	case 2:
		return call(r.id, "state", w, d, c)
	case 3:
		return call(r.id, "low", w, d, r.Int63n(60))
	case 4:
		return call(r.id, "nothing", w)
	}
	args := []int64{w, d, c}
	for range 1 + r.Intn(4) {
		args = append(args, 1+r.Int63n(6), 1, 1+r.Int63n(10))
	}
	return call(r.id, "new", args...)
}

func (r *drawn) draws() (list []int) {
	for range r.Intn(6) {
		list = append(list, r.Intn(3000)-r.Intn(2)*2000)
	}
	return list
}

// act does one of all things to a server with clients who are known.
func (r *drawn) act(x *served, clients []int) { r.actOf(r.Intn(100), x, clients) }

func (r *drawn) actOf(n int, x *served, clients []int) {
	switch {
	case n < 22:
		c := clients[r.Intn(len(clients))]
		var list []api.Request
		for range 1 + r.Intn(3) {
			list = append(list, r.request())
		}
		x.asks(c, list...)
	case n < 85:
		w := r.Intn(len(x.at))
		for range 1 + r.Intn(8) {
			x.work(w)
		}
	case n < 92:
		x.advance()
	case n < 96:
		x.flush()
	case n < 99:
		x.takes(clients[r.Intn(len(clients))])
	default:
		x.run()
	}
}

// start is a server with clients, on a disk; the more of them are there, the more they meet.
func (r *drawn) start(t *testing.T, d *disk.Disk) (*served, []int) {
	x := opens(t, d, 1+r.Intn(4), r.Intn(9))
	return x, r.clients(x)
}

func (r *drawn) clients(x *served) (list []int) {
	for range 1 + r.Intn(3) {
		list = append(list, x.letIn())
	}
	return list
}

func TestDrawnScripts(t *testing.T) {
	for part := range 8 {
		t.Run(fmt.Sprint(part), func(t *testing.T) {
			t.Parallel()
			for seed := range int64(15) {
				r := drawnOf(seed*8 + int64(part))
				d := disk.New()
				if seed%2 == 0 {
					d = books(t, int(seed))
				}
				x, clients := r.start(t, d)
				for range 4 {
					for range 60 {
						r.act(x, clients)
					}
					x.holds()
					if r.Intn(3) == 0 {
						x = x.crashes(1+r.Intn(4), r.Intn(9), r.draws()...)
						clients = r.clients(x)
					}
				}
				x.ends()
				x.holds()
				for _, c := range clients {
					x.takes(c)
				}
			}
		})
	}
}

// The books are sound behind any calls, wherever a crash comes between.
func TestBooksStaySound(t *testing.T) {
	r := drawnOf(5)
	x := opens(t, books(t, 3), 2, 8)
	c := x.letIn()
	for n := range 200 {
		r.id++
		x.did(c, r.call())
		if n%7 == 0 {
			x.advance()
			x.flush()
		}
		if n%20 == 19 {
			x.holds()
			x = x.crashes(2, 8, r.draws()...)
			if e := tpcc.Sound(x.base); e != api.OK {
				t.Fatal(e)
			}
			c = x.letIn()
		}
	}
}
