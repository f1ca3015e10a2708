package server_test

import (
	"fmt"
	"slices"
	"strings"
	"testing"

	"hopper/api"
	"hopper/auth"
	"hopper/disk"
	back "hopper/recover"
	"hopper/server"
	"hopper/table"
)

// asked is a request that was passed on.
type asked struct {
	conn int
	x    api.Request
}

// told is a reply that waits for its epoch.
type told struct {
	conn, epoch int
	packet      string
}

// served is a server beside what the chapter says of it: each act is done by both, and what is told is held against it.
type served struct {
	*testing.T
	s    *server.Server
	d    *disk.Disk
	base *table.Data // the state of first
	room int

	first, epoch, durable int
	steps                 int
	queue                 []asked
	at                    []*asked
	entered               []int
	changed               []int // epochs of tables that came or went, and that no checkpoint has
	ended                 []api.Done
	waiting               []told
	out                   []string // by connections: what is to come next
}

// opens begins a server on a disk of which recovery tells something.
func opens(t *testing.T, d *disk.Disk, workers, room int) *served {
	t.Helper()
	data, epoch, e := back.Read(d)
	if e != api.OK {
		t.Fatal(e)
	}
	s, e := server.New(d, theKeys(), workers, room, theDraw)
	if s == nil || e != api.OK {
		t.Fatal(s, e)
	}
	x := &served{T: t, s: s, d: d, base: data, room: room, first: epoch, epoch: epoch + 2, durable: epoch, at: make([]*asked, workers), entered: make([]int, workers)}
	x.state()
	return x
}

func (x *served) working() (n int) {
	for _, a := range x.at {
		if a != nil {
			n++
		}
	}
	return n
}

// state looks at what the server tells of itself.
func (x *served) state() {
	x.Helper()
	got := []int{x.s.Queue(), x.s.Working(), x.s.Epoch(), x.s.Durable()}
	want := []int{len(x.queue), x.working(), x.epoch, x.durable}
	if !slices.Equal(got, want) {
		x.Fatalf("%d wait, %d work, epoch %d, durable %d; not %d", got[0], got[1], got[2], got[3], want)
	}
}

func (x *served) dial() int {
	x.Helper()
	c, e := x.s.Dial()
	if c != len(x.out) || e != api.OK {
		x.Fatalf("dial %d: %d, %d", len(x.out), c, e)
	}
	x.out = append(x.out, "")
	x.state()
	return c
}

func challengeOf(conn int) string { return auth.Challenge(theDraw, conn) }

// letIn has a client who is known, of whom nothing is to come any more.
func (x *served) letIn() int {
	x.Helper()
	c := x.dial()
	x.feeds(c, hello(1, "ann"), telling(api.Reply{Kind: api.PChallenge, Id: 1, Text: challengeOf(c)}))
	x.feeds(c, proving(2, auth.Proof("k", "ann", challengeOf(c))), telling(api.Reply{Kind: api.PWelcome, Id: 2}))
	x.takes(c)
	return c
}

// feeds sends bytes, of which these replies of the session come, and these requests are passed on.
func (x *served) feeds(c int, b, out string, passed ...api.Request) {
	x.Helper()
	if e := x.s.Send(c, b); e != api.OK {
		x.Fatalf("send: %d", e)
	}
	x.out[c] += out
	for _, r := range passed {
		if len(x.queue) >= x.room {
			x.out[c] += telling(api.Reply{Kind: api.PBusy, Id: r.Id})
		} else {
			x.queue = append(x.queue, asked{c, r})
		}
	}
	x.state()
}

// asks sends requests of a client who is known.
func (x *served) asks(c int, list ...api.Request) {
	x.Helper()
	x.feeds(c, asking(list...), "", list...)
}

// takes looks at what comes to a client, and that it comes once.
func (x *served) takes(c int) {
	x.Helper()
	got, e := x.s.Recv(c)
	if got != x.out[c] || e != api.OK {
		x.Fatalf("to %d came %d, %q; not %q", c, e, got, x.out[c])
	}
	x.out[c] = ""
	if got, e = x.s.Recv(c); got != "" || e != api.OK {
		x.Fatalf("to %d came again: %d, %q", c, e, got)
	}
	x.state()
}

// gets is takes of just these replies.
func (x *served) gets(c int, list ...api.Reply) {
	x.Helper()
	want := ""
	for _, y := range list {
		want += telling(y)
	}
	if x.out[c] != want {
		x.Fatalf("to %d is to come %q, not %q", c, x.out[c], want)
	}
	x.takes(c)
}

// work lets a worker work, and answers what ended by it.
func (x *served) work(w int) (done api.Done, ended bool) {
	x.Helper()
	if e := x.s.Work(w); e != api.OK {
		x.Fatalf("work of %d: %d", w, e)
	}
	of, ended := x.worked(w)
	if ended {
		done = x.lastEnded(of)
		x.placed(w, done)
		x.ended = append(x.ended, done)
		x.hears(done)
	}
	x.state()
	return done, ended
}

// worked answers what a worker has worked on, and whether that has ended. A transaction's end is the store's own: it shows in how many are at one.
func (x *served) worked(w int) (of asked, ended bool) {
	switch {
	case x.at[w] != nil:
		x.steps++
		of = *x.at[w]
		ended = x.s.Working() < x.working()
		if ended {
			x.at[w] = nil
		}
	case len(x.queue) > 0 && x.mayBegin(x.queue[0].x.Kind):
		of = x.queue[0]
		x.queue = slices.Clone(x.queue[1:])
		ended = of.x.Kind != api.MBatch
		if !ended {
			x.at[w], x.entered[w] = &of, x.epoch
		}
	}
	return of, ended
}

// lastEnded looks whether just this request has ended behind those ahead of it.
func (x *served) lastEnded(of asked) api.Done {
	x.Helper()
	list := x.s.Ended()
	if len(list) != len(x.ended)+1 {
		x.Fatalf("%d requests had ended, now %d", len(x.ended), len(list))
	}
	done := list[len(x.ended)]
	if done.Conn != of.conn || asking(done.X) != asking(of.x) {
		x.Fatalf("%s has ended, not %d %v", lookOfDone(done), of.conn, of.x)
	}
	return done
}

func (x *served) mayBegin(kind int) bool {
	return kind == api.MBatch || kind == api.MRead || x.working() == 0
}

// placed looks at the place of what has ended.
func (x *served) placed(w int, done api.Done) {
	x.Helper()
	o := done.Out
	right := o.Worker == 0 && o.Number == 0
	switch {
	case done.X.Kind == api.MRead:
		right = right && o.Step == 0 && (o.Epoch == x.epoch-2 || isQueryError(o))
	case done.X.Kind != api.MBatch:
		right = right && o.Step == x.steps && o.Epoch == x.epoch && len(o.Results) == 1 && o.Committed == (o.Results[0].Code == api.OK)
		if o.Committed && done.X.Kind != api.MCall {
			x.changed = append(x.changed, x.epoch)
		}
	case isAborted(done):
		right = right && o.Step == 0 && len(o.Results) == 0
	default:
		right = right && 1 <= o.Step && o.Step <= x.steps && x.entered[w] <= o.Epoch && o.Epoch <= x.epoch
	}
	if !right {
		x.Fatalf("at the epoch %d, behind %d steps: %s", x.epoch, x.steps, lookOfDone(done))
	}
}

func isAborted(done api.Done) bool {
	return done.X.Kind == api.MBatch && !done.Out.Committed && done.Out.Epoch == 0
}

// isQueryError tells whether a query's outcome is an error of chapter 17: these codes are none of what its operations come to.
func isQueryError(o api.Outcome) bool {
	return !o.Committed && o.Epoch == 0 && len(o.Results) == 1 && o.Results[0].Code == api.ErrProgram && len(o.Results[0].Rows) == 0
}

// replyTo is the one that a request gets that has ended.
func replyTo(done api.Done) api.Reply {
	y := api.Reply{Kind: api.PDone, Id: done.X.Id, Epoch: done.Out.Epoch, Results: done.Out.Results}
	for _, r := range done.Out.Results {
		y.Code = r.Code
	}
	if isAborted(done) {
		return api.Reply{Kind: api.PError, Id: done.X.Id, Code: api.ErrLocked}
	}
	if done.X.Kind == api.MRead && isQueryError(done.Out) {
		return api.Reply{Kind: api.PError, Id: done.X.Id, Code: y.Code}
	}
	return y
}

// hears lets a reply come, at once or in time.
func (x *served) hears(done api.Done) {
	y := replyTo(done)
	if y.Epoch > api.MaxEpoch {
		return
	}
	x.waiting = append(x.waiting, told{done.Conn, y.Epoch, telling(y)})
	x.letOut()
}

func (x *served) letOut() {
	var rest []told
	for _, y := range x.waiting {
		if y.epoch <= x.durable {
			x.out[y.conn] += y.packet
		} else {
			rest = append(rest, y)
		}
	}
	x.waiting = rest
}

// advance looks whether the epoch rises, as it does unless somebody began at the one before.
func (x *served) advance() bool {
	x.Helper()
	want := true
	for w, a := range x.at {
		want = want && (a == nil || x.entered[w] == x.epoch)
	}
	if got := x.s.Advance(); got != want {
		x.Fatalf("advance: %v", got)
	}
	if want {
		x.epoch++
	}
	x.state()
	return want
}

// becomes is the epoch that Flush makes the durable one.
func (x *served) becomes() int {
	next := x.epoch - 1
	if x.working() > 0 {
		next--
	}
	// What is above can neither be written nor told.
	next = min(next, api.MaxEpoch)
	if next <= x.durable || x.working() > 0 && x.needsCheckpoint(next) {
		return x.durable
	}
	return next
}

func (x *served) needsCheckpoint(next int) bool {
	return slices.ContainsFunc(x.changed, func(epoch int) bool { return epoch <= next })
}

// flush looks at a flush that is not refused.
func (x *served) flush() {
	x.Helper()
	next := x.becomes()
	manifest := filesOf(x.d)["manifest"]
	if e := x.s.Flush(); e != api.OK {
		x.Fatalf("flush: %d", e)
	}
	writes := next > x.durable && x.needsCheckpoint(next)
	if written := filesOf(x.d)["manifest"] != manifest; written != writes {
		x.Fatalf("a checkpoint was written: %v", written)
	}
	x.becameDurable(next)
	x.state()
}

func (x *served) becameDurable(next int) {
	x.changed = slices.DeleteFunc(x.changed, func(epoch int) bool { return epoch <= next && next > x.durable })
	x.durable = next
	x.letOut()
}

// run works, by turns, until nothing waits and nobody works.
func (x *served) run() {
	x.Helper()
	for n := 0; len(x.queue) > 0 || x.working() > 0; n++ {
		x.work(n % len(x.at))
		if n > 200000 {
			x.Fatal("there is no end")
		}
	}
}

// ends runs, and flushes until nothing waits for an epoch.
func (x *served) ends() {
	x.Helper()
	x.run()
	x.advance()
	x.flush()
	if len(x.waiting) > 0 {
		x.Fatalf("%d replies wait", len(x.waiting))
	}
}

// did asks something, and answers what became of it, with all that waits ahead of it.
func (x *served) did(c int, r api.Request) api.Done {
	x.Helper()
	x.asks(c, r)
	x.run()
	return x.ended[len(x.ended)-1]
}

// does is did of something that is done.
func (x *served) does(c int, r api.Request) api.Done {
	x.Helper()
	done := x.did(c, r)
	if !done.Out.Committed {
		x.Fatalf("was not done: %s", lookOfDone(done))
	}
	return done
}

// past is the order of a server's requests, on top of what it began with.
type past struct {
	base   *table.Data
	first  int
	order  []api.Done
	asides []api.Done // queries
}

func (x *served) past() past {
	p := past{base: x.base, first: x.first}
	for _, done := range x.ended {
		if done.X.Kind == api.MRead {
			p.asides = append(p.asides, done)
		} else if !isAborted(done) {
			p.order = append(p.order, done)
		}
	}
	slices.SortStableFunc(p.order, func(a, b api.Done) int { return a.Out.Step - b.Out.Step })
	return p
}

// asOf is what the order had come to up to an epoch.
func (p past) asOf(epoch int) *table.Data {
	d := cloned(p.base)
	for _, done := range p.order {
		if done.Out.Epoch <= epoch {
			redo(d, done.X)
		}
	}
	return d
}

// holds looks at all that has ended (27.6), at the states of all epochs, and whether what was told before is told still.
func (x *served) holds() {
	x.Helper()
	list := x.s.Ended()
	if len(list) != len(x.ended) {
		x.Fatalf("%d requests have ended, not %d", len(list), len(x.ended))
	}
	for at, done := range x.ended {
		if lookOfDone(list[at]) != lookOfDone(done) {
			x.Fatalf("%d: %s, not %s any more", at, lookOfDone(list[at]), lookOfDone(done))
		}
	}
	p := x.past()
	p.check(x.T)
	last := x.epoch
	if x.working() > 0 {
		last -= 2
	}
	for epoch := x.first; epoch <= last; epoch++ {
		x.showsAsOf(epoch, p.asOf(epoch))
	}
	for _, epoch := range []int{x.first - 1, last + 1, -1, -1 << 63, 1<<63 - 1} {
		if d, e := x.s.AsOf(epoch); d != nil || e != api.ErrRange {
			x.Fatalf("as of %d: %v, %d", epoch, d, e)
		}
	}
}

func (x *served) showsAsOf(epoch int, want *table.Data) {
	x.Helper()
	d, e := x.s.AsOf(epoch)
	if e != api.OK || lookOf(d) != lookOf(want) {
		x.Fatalf("as of %d: %d, %s; not %s", epoch, e, lookOf(d), lookOf(want))
	}
}

func (p past) check(t *testing.T) {
	t.Helper()
	d, epoch := cloned(p.base), p.first
	for _, done := range p.order {
		if o := done.Out; o.Epoch < epoch {
			t.Fatalf("behind the epoch %d: %s", epoch, lookOfDone(done))
		}
		epoch = done.Out.Epoch
		results, ok := redo(d, done.X)
		if lookOfResults(results) != lookOfResults(done.Out.Results) || ok != done.Out.Committed {
			t.Fatalf("%s; not %v, %s", lookOfDone(done), ok, lookOfResults(results))
		}
	}
	for _, done := range p.asides {
		if isQueryError(done.Out) {
			continue
		}
		results, ok, _ := p.asOf(done.Out.Epoch).Apply(done.X.Ops)
		if lookOfResults(results) != lookOfResults(done.Out.Results) || ok != done.Out.Committed {
			t.Fatalf("%s; not %v, %s", lookOfDone(done), ok, lookOfResults(results))
		}
	}
}

// crashes lets the disk crash, and begins another server, which has to begin with what this one's order had come to up to an epoch that is not below what was durable.
func (x *served) crashes(workers, room int, draws ...int) *served {
	x.Helper()
	p := x.past()
	if e := x.d.Crash(draws); e != api.OK {
		x.Fatal(e)
	}
	y := opens(x.T, x.d, workers, room)
	if y.first < x.durable || y.first >= x.epoch {
		x.Fatalf("the epoch %d behind a crash; %d was durable, %d not over", y.first, x.durable, x.epoch)
	}
	if want := lookOf(p.asOf(y.first)); lookOf(y.base) != want {
		x.Fatalf("behind a crash, as of %d: %s; not %s", y.first, lookOf(y.base), want)
	}
	y.showsAsOf(y.first, y.base)
	y.showsAsOf(y.epoch, y.base)
	return y
}

// replies are those in some bytes, in short.
func replies(b string) string {
	var out []string
	for len(b) >= 4 {
		n := int(b[0])<<24 | int(b[1])<<16 | int(b[2])<<8 | int(b[3])
		out = append(out, fmt.Sprint(b[4], ":", b[12]))
		b = b[4+n:]
	}
	return strings.Join(out, " ")
}
