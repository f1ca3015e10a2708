package server_test

import (
	"fmt"
	"testing"

	"hopper/api"
	"hopper/disk"
	"hopper/server"
)

// 27.7: behind a crash anywhere, a new server begins with what the order had come to up to its epoch, and nothing above that was told.

// tails are draws of each kind: nothing of what was not safe stays, all of it, or some.
func tails() [][]int {
	return [][]int{nil, {-1, -1, -1}, {1, 1, 1, 1}, {1 << 40, 1<<40 + 1, 1<<40 + 2}, {7, 3, 11, 5}, {19, 20, 21, 22}, {100, 200, 300}}
}

// situations are what a server is in ahead of a flush, by what they are. Each answers the server, with replies that wait.
func situations() map[string]func(t *testing.T) *served {
	return map[string]func(t *testing.T) *served{
		"nothing": func(t *testing.T) *served {
			x := opens(t, disk.New(), 1, 9)
			x.letIn()
			return x
		},
		"batches of three workers": func(t *testing.T) *served {
			x := opens(t, saved(t, dataOf(plain("t"), 1, 1), 7), 3, 9)
			c := x.letIn()
			for n := range int64(3) {
				x.asks(c, batch(1, put("t", nums(10*n, n)...)), batch(2, put("t", nums(10*n+1, n)...)), batch(3, put("t", nums(10*n+2, n)...)), query(4, scan("t")))
				x.run()
				x.advance()
			}
			x.does(c, batch(5, del("t", num(10)), put("t", nums(20, 99)...)))
			return x
		},
		"batches behind a flush": func(t *testing.T) *served {
			x := opens(t, saved(t, dataOf(plain("t"), 1, 1), 7), 2, 9)
			c := x.letIn()
			x.does(c, batch(1, put("t", nums(2, 2)...)))
			x.ends()
			x.does(c, batch(2, put("t", nums(2, 3)...)))
			x.advance()
			x.does(c, batch(3, del("t", num(2))))
			return x
		},
		"tables": func(t *testing.T) *served {
			x := opens(t, disk.New(), 2, 9)
			c := x.letIn()
			x.asks(c, create(1, plain("t")), create(2, indexed("u")), batch(3, put("t", nums(1, 1)...), put("u", num(1), txt("x"))))
			x.run()
			x.advance()
			x.asks(c, batch(4, put("t", nums(2, 2)...)))
			x.run()
			return x
		},
		"tables that come and go": func(t *testing.T) *served {
			x := opens(t, saved(t, dataOf(plain("t"), 1, 1, 2, 2), 7), 2, 9)
			c := x.letIn()
			x.asks(c, create(1, plain("u")), batch(2, put("t", nums(3, 3)...)), batch(3, put("u", nums(1, 1)...)))
			x.run()
			x.ends()
			x.asks(c, drop(4, "t"), batch(5, put("u", nums(2, 2)...)), create(6, indexed("t")), batch(7, put("t", num(1), txt("x"))), drop(8, "u"))
			x.run()
			x.advance()
			x.advance()
			x.does(c, create(9, plain("u")))
			return x
		},
		"the books": func(t *testing.T) *served {
			x := opens(t, books(t, 7), 2, 9)
			c := x.letIn()
			for n := range 3 {
				x.does(c, call(n, "new", 1, 1, 1, 2, 1, 3, 1, 1, 2))
				x.does(c, call(n, "pay", 1, 1, 1, 5))
				x.advance()
			}
			x.does(c, call(4, "bring", 1, 3))
			return x
		},
		"somebody at a transaction": func(t *testing.T) *served {
			x := opens(t, saved(t, dataOf(plain("t"), 1, 1, 2, 2), 7), 2, 9)
			c := x.letIn()
			x.does(c, batch(1, put("t", nums(3, 3)...)))
			x.asks(c, batch(2, add("t", 1, 1, num(1))))
			x.advance()
			x.asks(c, batch(3, add("t", 1, 1, num(2))))
			x.toil(0)
			x.toil(1)
			for x.at[1] != nil {
				x.work(1)
			}
			x.advance()
			return x
		},
		"somebody at a transaction, and a table": func(t *testing.T) *served {
			x := opens(t, saved(t, dataOf(plain("t"), 1, 1, 2, 2), 7), 2, 9)
			c := x.letIn()
			x.does(c, create(1, plain("u")))
			x.advance()
			x.does(c, batch(2, put("u", nums(3, 3)...)))
			x.asks(c, batch(3, add("t", 1, 1, num(1))))
			x.toil(0)
			x.advance()
			return x
		},
	}
}

// A flush is let go wrong at each of its changes; behind it the disk crashes, in each way.
func TestCrashAnywhereInFlush(t *testing.T) {
	for what, made := range situations() {
		t.Run(what, func(t *testing.T) {
			t.Parallel()
			for fuse := 0; ; fuse++ {
				for _, draws := range tails() {
					if !crashInFlush(made(t), fuse, draws) {
						return
					}
				}
			}
		})
	}
}

// crashInFlush answers whether the disk was down ahead of the flush's end.
func crashInFlush(x *served, fuse int, draws []int) bool {
	x.Helper()
	x.d.Fuse(fuse)
	e := x.s.Flush()
	if e == api.OK {
		x.becameDurable(x.becomes())
		x.state()
	} else if e != api.ErrDown {
		x.Fatal(fuse, e)
	}
	// Nothing more has gone out.
	for c := range x.out {
		x.takes(c)
	}
	y := x.crashes(2, 9, draws...)
	c := y.letIn()
	y.asks(c, create(1, plain("new")), batch(2, put("new", nums(1, 1)...)))
	y.run()
	y.ends()
	y.takes(c)
	y.holds()
	y.crashes(1, 1, draws...)
	return e == api.ErrDown
}

// New may go wrong, too, at each of its changes; another one begins with the same.
func TestCrashAnywhereInNew(t *testing.T) {
	for what, made := range situations() {
		t.Run(what, func(t *testing.T) {
			t.Parallel()
			x := made(t)
			x.flush()
			for fuse := 0; ; fuse++ {
				down := false
				for _, draws := range tails() {
					z := *x
					z.d = copied(x.d)
					z.d.Fuse(fuse)
					s, e := server.New(z.d, theKeys(), 1, 1, 0)
					if (s == nil) != (e != api.OK) || e != api.OK && e != api.ErrDown {
						t.Fatal(s, e)
					}
					down = e == api.ErrDown
					y := z.crashes(2, 9, draws...)
					if y.first != x.durable && what != "somebody at a transaction, and a table" {
						t.Fatal(y.first, x.durable)
					}
				}
				if !down {
					return
				}
			}
		})
	}
}

// Ahead of any flush nothing lasts, and nothing was told.
func TestCrashAheadOfAFlush(t *testing.T) {
	for what, made := range situations() {
		for _, draws := range tails() {
			x := made(t)
			durable := x.durable
			if y := x.crashes(1, 1, draws...); y.first != durable {
				t.Error(what, y.first, durable)
			}
		}
	}
}

// Several servers one behind the other, on a disk that goes down anywhere.
func TestManyServersOnOneDisk(t *testing.T) {
	for part := range int64(8) {
		t.Run(fmt.Sprint(part), func(t *testing.T) {
			t.Parallel()
			for seed := range int64(6) {
				r := drawnOf(1000 + 8*seed + part)
				x := opens(t, books(t, int(seed)), 2, 8)
				for range 25 {
					x = r.life(x)
				}
			}
		})
	}
}

// life lets a server serve until its disk is down, or for a while, and answers the next one.
func (r *drawn) life(x *served) *served {
	x.Helper()
	clients := r.clients(x)
	x.d.Fuse(r.Intn(40))
	for range 30 {
		if r.Intn(4) == 0 {
			next := x.becomes()
			if x.s.Flush() != api.OK {
				break
			}
			x.becameDurable(next)
			x.state()
			continue
		}
		r.actWithoutFlush(x, clients)
	}
	for _, c := range clients {
		x.takes(c)
	}
	if r.Intn(2) == 0 {
		x.d.Crash(r.draws())
		// A server that does not come up leaves all as it was.
		x.d.Fuse(r.Intn(12))
		server.New(x.d, theKeys(), 1+r.Intn(3), 1, 0)
	}
	return x.crashes(1+r.Intn(3), r.Intn(9), r.draws()...)
}

// actWithoutFlush leaves that one thing out.
func (r *drawn) actWithoutFlush(x *served, clients []int) {
	n := r.Intn(96)
	if n >= 92 {
		n += 4
	}
	r.actOf(n, x, clients)
}

// A disk that is full, or was, loses nothing of what lasts.
func TestCrashOfAFullDisk(t *testing.T) {
	for left := range 4 {
		for _, draws := range tails() {
			x := opens(t, saved(t, dataOf(plain("t"), 1, 1), 7), 2, 9)
			c := x.letIn()
			x.does(c, batch(1, put("t", nums(2, 2)...)))
			x.ends()
			x.takes(c)
			x.does(c, create(2, plain("u")))
			x.does(c, batch(3, put("u", nums(2, 2)...)))
			x.advance()
			fills(x.d, left)
			if x.s.Flush() == api.OK {
				x.becameDurable(x.epoch - 1)
			}
			x.takes(c)
			frees(x.d, 9)
			x.crashes(1, 1, draws...)
		}
	}
}
