package server_test

import (
	"math"
	"strings"
	"testing"

	"hopper/api"
	"hopper/auth"
	"hopper/disk"
	"hopper/server"
)

// 27.2: Dial, Send and Recv.

func (x *served) refusesSend(c int, b string, want api.Errno) {
	x.Helper()
	for range 2 {
		if e := x.s.Send(c, b); e != want {
			x.Fatalf("send of %d bytes to %d: %d, not %d", len(b), c, e, want)
		}
		x.state()
	}
}

func (x *served) refusesRecv(c int) {
	x.Helper()
	for range 2 {
		if b, e := x.s.Recv(c); b != "" || e != api.ErrNone {
			x.Fatalf("recv of %d: %q, %d", c, b, e)
		}
	}
}

func TestDialUpToTheLast(t *testing.T) {
	x := opens(t, disk.New(), 1, 1)
	for n := range api.MaxConns {
		if c := x.dial(); c != n {
			t.Fatal(c, n)
		}
	}
	for range 3 {
		if c, e := x.s.Dial(); c != 0 || e != api.ErrLong {
			t.Error(c, e)
		}
	}
	x.refusesRecv(api.MaxConns)
	// A connection that is closed is one still.
	x.feeds(0, bye(1), telling(api.Reply{Kind: api.PDone, Id: 1}))
	if c, e := x.s.Dial(); c != 0 || e != api.ErrLong {
		t.Error(c, e)
	}
	x.feeds(api.MaxConns-1, hello(7, "bob"), telling(api.Reply{Kind: api.PChallenge, Id: 7, Text: challengeOf(api.MaxConns - 1)}))
	for c := range api.MaxConns {
		x.takes(c)
	}
}

func TestConnectionsThatAreNotThere(t *testing.T) {
	x := opens(t, disk.New(), 1, 1)
	long := strings.Repeat("\x00", api.MaxBytes+1)
	for there := range 3 {
		for _, c := range []int{-1, there, there + 1, api.MaxConns, math.MinInt, math.MaxInt} {
			x.refusesSend(c, "", api.ErrNone)
			x.refusesSend(c, hello(1, "ann"), api.ErrNone)
			x.refusesSend(c, long, api.ErrNone)
			x.refusesRecv(c)
		}
		x.dial()
		x.takes(there)
	}
}

// Each connection is a session of its own, whose number is the connection's, with the server's draw and keys.
func TestConnectionsAreSessions(t *testing.T) {
	for _, draw := range []uint64{0, 1, 9, math.MaxUint64} {
		k := auth.New()
		s, e := server.New(disk.New(), k, 1, 4, draw)
		if e != api.OK {
			t.Fatal(e)
		}
		// Who comes to be known later is let in, and who is not known any more isn't.
		k.Put("eve", "e")
		for n := range 3 {
			c, _ := s.Dial()
			challenge := auth.Challenge(draw, n)
			s.Send(c, hello(5, "eve"))
			b, _ := s.Recv(c)
			if b != telling(api.Reply{Kind: api.PChallenge, Id: 5, Text: challenge}) {
				t.Fatalf("%d: %q", n, b)
			}
			want := api.Reply{Kind: api.PWelcome, Id: 6}
			if n == 2 {
				k.Take("eve")
				want = api.Reply{Kind: api.PError, Id: 6, Code: api.ErrAuth}
			}
			s.Send(c, proving(6, auth.Proof("e", "eve", challenge)))
			if b, _ = s.Recv(c); b != telling(want) {
				t.Fatalf("%d: %q", n, b)
			}
			if e := s.Send(c, asking(batch(1))); (e == api.ErrClosed) != (n == 2) || s.Queue() != min(n+1, 2) {
				t.Fatal(n, e, s.Queue())
			}
		}
	}
}

func TestSendToSessionsThatAreClosed(t *testing.T) {
	x := opens(t, disk.New(), 1, 4)
	known := x.letIn()
	x.feeds(known, asking(batch(3))+bye(4)+asking(batch(5)), telling(api.Reply{Kind: api.PDone, Id: 4}), batch(3))
	wrong := x.dial()
	x.feeds(wrong, hello(1, "ann")+proving(2, "x")+hello(3, "ann"), telling(api.Reply{Kind: api.PChallenge, Id: 1, Text: challengeOf(wrong)})+telling(api.Reply{Kind: api.PError, Id: 2, Code: api.ErrAuth}))
	phase := x.dial()
	x.feeds(phase, asking(batch(8)), telling(api.Reply{Kind: api.PError, Id: 8, Code: api.ErrPhase}))
	form := x.dial()
	x.feeds(form, packed("none"), telling(api.Reply{Kind: api.PError, Code: api.ErrMessage}))
	frame := x.dial()
	x.feeds(frame, hello(1, "ann")+"\x7f\x00\x00\x00", telling(api.Reply{Kind: api.PChallenge, Id: 1, Text: challengeOf(frame)})+telling(api.Reply{Kind: api.PError, Code: api.ErrFrame}))
	for _, c := range []int{known, wrong, phase, form, frame} {
		for _, b := range []string{"", "x", hello(1, "ann"), asking(batch(9)), strings.Repeat("\x00", api.MaxBytes+1)} {
			x.refusesSend(c, b, api.ErrClosed)
		}
		x.takes(c)
	}
	// What was passed on ahead of the closing goes its way.
	x.run()
	x.advance()
	x.flush()
	x.gets(known, api.Reply{Kind: api.PDone, Id: 3, Epoch: 2})
}

func TestSendOfTooManyBytes(t *testing.T) {
	x := opens(t, disk.New(), 1, api.MaxItems)
	c := x.letIn()
	one := asking(batch(1))
	many := api.MaxBytes / len(one)
	rest := one[:api.MaxBytes-many*len(one)]
	var list []api.Request
	for range many {
		list = append(list, batch(1))
	}
	all := strings.Repeat(one, many) + rest
	x.refusesSend(c, all+"x", api.ErrLong)
	x.refusesSend(c, strings.Repeat("\xff", api.MaxBytes+1), api.ErrLong)
	x.feeds(c, all, "", list...)
	x.feeds(c, one[len(rest):], "", batch(1))
	x.takes(c)
	x.feeds(c, "", "")
	x.takes(c)
}

func TestBytesCutAnywhere(t *testing.T) {
	list := []api.Request{create(3, plain("t")), batch(4, put("t", num(1), num(2))), query(5, scan("t")), call(6, "pay", 1, 2), drop(7, "t")}
	all := asking(list...)
	for cut := 1; cut < len(all); cut++ {
		x := opens(t, disk.New(), 1, 3)
		c := x.letIn()
		n := 0
		for n < len(list) && len(asking(list[:n+1]...)) <= cut {
			n++
		}
		x.feeds(c, all[:cut], "", list[:n]...)
		x.feeds(c, all[cut:], "", list[n:]...)
		x.gets(c, api.Reply{Kind: api.PBusy, Id: 6}, api.Reply{Kind: api.PBusy, Id: 7})
	}
}

// What a session tells at once goes out ahead of what the queue has no room for, of the same bytes.
func TestWhatGoesOutOfOneSend(t *testing.T) {
	x := opens(t, disk.New(), 1, 1)
	c := x.dial()
	proof := auth.Proof("k", "ann", challengeOf(c))
	told := telling(api.Reply{Kind: api.PChallenge, Id: 1, Text: challengeOf(c)}) + telling(api.Reply{Kind: api.PWelcome, Id: 2}) + telling(api.Reply{Kind: api.PDone, Id: 6})
	x.feeds(c, hello(1, "ann")+proving(2, proof)+asking(batch(3), query(4), drop(5, "t"))+bye(6), told, batch(3), query(4), drop(5, "t"))
	want := told + telling(api.Reply{Kind: api.PBusy, Id: 4}) + telling(api.Reply{Kind: api.PBusy, Id: 5})
	if x.out[c] != want {
		t.Errorf("%s", replies(x.out[c]))
	}
	x.takes(c)
}

func TestRecvTellsWhatCameSince(t *testing.T) {
	x := opens(t, disk.New(), 1, 0)
	c, other := x.letIn(), x.letIn()
	x.asks(c, batch(1))
	x.asks(other, batch(2))
	x.asks(c, batch(3))
	x.gets(c, api.Reply{Kind: api.PBusy, Id: 1}, api.Reply{Kind: api.PBusy, Id: 3})
	x.asks(c, batch(4))
	x.gets(c, api.Reply{Kind: api.PBusy, Id: 4})
	x.gets(c)
	x.gets(other, api.Reply{Kind: api.PBusy, Id: 2})
}

// A queue has as much room as was told, whoever asks; what a worker is at does not wait.
func TestRoom(t *testing.T) {
	for _, room := range []int{0, 1, 2, 3, 7} {
		x := opens(t, disk.New(), 2, room)
		a, b := x.letIn(), x.letIn()
		for n := range room + 2 {
			x.asks(a, batch(2*n))
			x.asks(b, query(2*n+1))
		}
		if x.s.Queue() != room {
			t.Fatal(room, x.s.Queue())
		}
		x.takes(a)
		x.takes(b)
		for n := range room + 1 {
			// Whatever is taken makes room for one.
			x.work(n % 2)
			x.asks(a, batch(100+n), batch(200+n))
		}
		if len(x.queue) != room {
			t.Fatal(room, len(x.queue))
		}
		x.run()
		if room > 0 {
			x.asks(b, batch(300))
			x.gets(b, x.toldSoFar(b)...)
		}
		x.ends()
		x.takes(a)
		x.takes(b)
		x.holds()
	}
}

// toldSoFar has the replies that are to come next, by what has ended.
func (x *served) toldSoFar(c int) (list []api.Reply) {
	for _, done := range x.ended {
		if y := replyTo(done); done.Conn == c && y.Epoch <= x.durable {
			list = append(list, y)
		}
	}
	return list
}

func TestMuchRoom(t *testing.T) {
	x := opens(t, disk.New(), 1, api.MaxItems)
	c := x.letIn()
	var list []api.Request
	for n := range 64 {
		list = append(list, batch(n))
	}
	for range api.MaxItems / 64 {
		x.asks(c, list...)
	}
	if x.out[c] != "" {
		t.Fatal("there is room")
	}
	x.asks(c, batch(9))
	x.gets(c, api.Reply{Kind: api.PBusy, Id: 9})
	x.work(0)
	x.asks(c, batch(10), batch(11))
	x.gets(c, api.Reply{Kind: api.PBusy, Id: 11})
}

// Requests wait in the order in which they came, whoever asked.
func TestTheQueueIsInOrder(t *testing.T) {
	x := opens(t, disk.New(), 1, 50)
	a, b := x.letIn(), x.letIn()
	for n := range 10 {
		x.asks([]int{a, b}[n%2], query(3*n), drop(3*n+1, "t"), call(3*n+2, "none"))
	}
	for n := range 30 {
		if done, ended := x.work(0); !ended || done.X.Id != n || done.Conn != []int{a, b}[n/3%2] {
			t.Fatal(n, lookOfDone(done))
		}
	}
}
