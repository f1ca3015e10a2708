package server_test

import (
	"fmt"
	"strings"
	"testing"

	"hopper/api"
	"hopper/auth"
	"hopper/disk"
	"hopper/mess"
)

// 27.8: who is not known changes nothing, and each request has its reply.

// noise are bytes of clients who can't prove themselves, for a connection.
func (r *drawn) noise(c int) string {
	bytes := make([]byte, r.Intn(300))
	r.Read(bytes)
	other := auth.Proof("k", "ann", challengeOf(c-1))
	switch r.Intn(9) {
	case 0:
		return string(bytes)
	case 1:
		return packed(string(bytes))
	case 2:
		return asking(r.request())
	case 3:
		return hello(1, "ann")
	case 4:
		return hello(1, "ann") + proving(2, auth.Proof("K", "ann", challengeOf(c))) + asking(r.request(), r.request())
	case 5:
		// Another client's own proof.
		return hello(1, "ann") + proving(2, other) + asking(r.request())
	case 6:
		return hello(1, "bob") + proving(2, auth.Proof("k", "bob", challengeOf(c))) + asking(r.request())
	case 7:
		return bye(3) + asking(r.request())
	}
	return strings.Repeat("\x00", api.MaxBytes+r.Intn(3)-1)
}

// disturbs lets clients who are not known come and send something.
func (r *drawn) disturbs(x *served) {
	for range r.Intn(3) {
		x.s.Dial()
	}
	for range r.Intn(4) {
		c := 3 + r.Intn(80)
		x.s.Send(c, r.noise(c))
		if r.Intn(3) == 0 {
			x.s.Recv(c)
		}
	}
}

// playedWith answers all that three clients who are known are told, and that a server tells of itself, among those who are not known or without them.
func playedWith(t *testing.T, seed int64, unknown bool) string {
	r, other := drawnOf(seed), drawnOf(seed+1)
	x := opens(t, books(t, 5), 3, 5)
	clients := []int{x.letIn(), x.letIn(), x.letIn()}
	var out strings.Builder
	for range 150 {
		if unknown {
			other.disturbs(x)
		}
		r.act(x, clients)
		for _, c := range clients {
			fmt.Fprintf(&out, "%q", x.out[c])
			x.takes(c)
		}
		fmt.Fprintln(&out, x.s.Queue(), x.s.Working(), x.s.Epoch(), x.s.Durable())
	}
	x.ends()
	x.holds()
	for _, c := range clients {
		fmt.Fprintf(&out, "%q", x.out[c])
		x.takes(c)
	}
	for _, y := range x.s.Ended() {
		fmt.Fprintln(&out, lookOfDone(y))
	}
	fmt.Fprint(&out, filesOf(x.d))
	return out.String()
}

func TestNothingHangsOnWhoIsNotKnown(t *testing.T) {
	for seed := range int64(24) {
		t.Run(fmt.Sprint(seed), func(t *testing.T) {
			t.Parallel()
			if without, with := playedWith(t, seed, false), playedWith(t, seed, true); without != with {
				t.Error("they are told something else")
			}
		})
	}
}

// Clients who are not known are told what their sessions tell, whoever else there is.
func TestWhoIsNotKnownIsToldTheSame(t *testing.T) {
	x := opens(t, books(t, 5), 2, 3)
	a, b := x.letIn(), x.letIn()
	r := drawnOf(7)
	for n := range 20 {
		c := x.dial()
		r.act(x, []int{a, b})
		x.feeds(c, hello(n, "ann"), telling(api.Reply{Kind: api.PChallenge, Id: n, Text: challengeOf(c)}))
		r.act(x, []int{a, b})
		x.feeds(c, proving(n+1, "no proof")+asking(r.request()), telling(api.Reply{Kind: api.PError, Id: n + 1, Code: api.ErrAuth}))
		r.act(x, []int{a, b})
		x.takes(c)
		c = x.dial()
		x.feeds(c, asking(r.request()), telling(api.Reply{Kind: api.PError, Id: r.id, Code: api.ErrPhase}))
		x.takes(c)
	}
	x.ends()
	x.holds()
}

// told reads all replies that have come to a client.
func (x *served) told(c int) (list []api.Reply) {
	x.Helper()
	b := x.out[c]
	x.takes(c)
	for b != "" {
		n := int(b[0])<<24 | int(b[1])<<16 | int(b[2])<<8 | int(b[3])
		y, e := mess.Told(b[4 : 4+n])
		if e != api.OK {
			x.Fatal(e)
		}
		list = append(list, y)
		b = b[4+n:]
	}
	return list
}

func TestEachRequestHasOneReply(t *testing.T) {
	for seed := range int64(40) {
		r := drawnOf(500 + seed)
		x, clients := r.start(t, books(t, 5))
		heard := map[int]int{}
		hear := func() {
			for _, c := range clients {
				for _, y := range x.told(c) {
					heard[y.Id]++
					if heard[y.Id] > 1 {
						t.Fatal("another reply to", y.Id)
					}
				}
			}
		}
		for range 120 {
			r.act(x, clients)
			hear()
		}
		// When workers work, epochs rise and all is flushed, all are told.
		x.run()
		x.s.Advance()
		x.epoch++
		x.flush()
		hear()
		if len(heard) != r.id {
			t.Errorf("%d requests have replies, of %d", len(heard), r.id)
		}
	}
}

// Who asks alone is never told that there is no room, nor that another one was in the way.
func TestAClientAlone(t *testing.T) {
	for seed := range int64(20) {
		r := drawnOf(900 + seed)
		x := opens(t, books(t, 5), 1+r.Intn(4), 1)
		c := x.letIn()
		for range 40 {
			x.asks(c, r.request())
			for len(x.queue) > 0 || x.working() > 0 {
				x.work(r.Intn(len(x.at)))
			}
			x.advance()
			x.flush()
			list := x.told(c)
			if len(list) != 1 || list[0].Id != r.id || list[0].Kind == api.PBusy || list[0].Code == api.ErrLocked {
				t.Fatal(seed, list)
			}
		}
		x.holds()
	}
}

// Two servers have nothing in common, but the keys.
func TestTwoServersByTurns(t *testing.T) {
	for seed := range int64(10) {
		r := drawnOf(700 + seed)
		x, clients := r.start(t, books(t, 5))
		y, others := r.start(t, disk.New())
		for range 120 {
			r.act(x, clients)
			r.act(y, others)
		}
		for _, z := range []*served{x, y} {
			z.ends()
			z.holds()
			z.crashes(1, 1, r.draws()...)
		}
	}
}

// R7: the same acts are told the same.
func TestTheSameIsToldTheSame(t *testing.T) {
	for seed := range int64(5) {
		if playedWith(t, 50+seed, false) != playedWith(t, 50+seed, false) {
			t.Error(seed)
		}
	}
}
