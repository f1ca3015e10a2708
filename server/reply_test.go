package server_test

import (
	"strings"
	"testing"

	"hopper/api"
	"hopper/disk"
	"hopper/mess"
)

// What a client is told, and when.

func done(id, epoch int, code api.Errno, results ...api.Result) api.Reply {
	return api.Reply{Kind: api.PDone, Id: id, Epoch: epoch, Code: code, Results: results}
}

func failed(id int, code api.Errno) api.Reply {
	return api.Reply{Kind: api.PError, Id: id, Code: code}
}

// The chapter's example.
func TestExample(t *testing.T) {
	x := opens(t, disk.New(), 1, 2)
	c := x.letIn()
	x.asks(c, create(1, plain("t")), batch(2, put("t", nums(1, 1)...)), batch(3, put("t", nums(2, 2)...)))
	x.gets(c, api.Reply{Kind: api.PBusy, Id: 3})
	x.run()
	x.flush()
	x.gets(c)
	if x.s.Durable() != 1 {
		t.Error(x.s.Durable())
	}
	x.advance()
	x.flush()
	if x.s.Durable() != 2 {
		t.Error(x.s.Durable())
	}
	x.gets(c, done(1, 2, api.OK, code(api.OK)), done(2, 2, api.OK, code(api.OK)))
	x.holds()
}

// Replies come in the order in which requests ended, as soon as their epochs last; some wait longer than others.
func TestRepliesThatWait(t *testing.T) {
	x := opens(t, saved(t, dataOf(plain("t"), 1, 10, 2, 20), 7), 1, 20)
	a, b := x.letIn(), x.letIn()
	x.asks(a, batch(1, get("t", num(1)), put("t", nums(3, 3)...)))
	x.asks(b, batch(2, get("t", num(2))), batch(3, put("t", num(3))), batch(4))
	x.run()
	x.advance()
	x.asks(a, drop(5, "u"), create(6, plain("u")), call(7, "none"))
	x.asks(b, drop(8, "u"), batch(9, scan("t"), get("t", txt("x"))))
	x.run()
	x.gets(a)
	x.gets(b)
	x.flush()
	x.gets(b, done(2, 9, api.OK, rowsOf(nums(2, 20))), done(3, 9, api.ErrRow, code(api.ErrRow)), done(4, 9, api.OK))
	x.advance()
	x.gets(b)
	x.flush()
	x.gets(a, done(1, 9, api.OK, rowsOf(nums(1, 10)), code(api.OK)), done(5, 10, api.ErrTable, code(api.ErrTable)), done(6, 10, api.OK, code(api.OK)), done(7, 10, api.ErrProgram, code(api.ErrProgram)))
	x.gets(b, done(8, 10, api.OK, code(api.OK)), done(9, 10, api.ErrRow, rowsOf(nums(1, 10), nums(2, 20), nums(3, 3)), code(api.ErrRow)))
	x.flush()
	x.advance()
	x.flush()
	x.gets(a)
	x.gets(b)
}

// A query's reply waits if the snapshot epoch does not last yet, and comes at once if it does.
func TestRepliesToQueries(t *testing.T) {
	x := opens(t, saved(t, dataOf(plain("t"), 1, 10), 7), 1, 20)
	c := x.letIn()
	x.did(c, query(1, get("t", num(1))))
	x.gets(c, done(1, 7, api.OK, rowsOf(nums(1, 10))))
	x.did(c, query(2, get("t", num(1)), get("u", num(1))))
	x.gets(c, done(2, 7, api.ErrTable, rowsOf(nums(1, 10)), code(api.ErrTable)))
	x.did(c, query(3))
	x.gets(c, done(3, 7, api.OK))
	x.did(c, query(4, get("t", num(1)), put("t", nums(1, 1)...), get("u", num(1))))
	x.gets(c, failed(4, api.ErrProgram))
	x.advance()
	x.did(c, query(5, get("t", num(1))))
	x.did(c, query(6, del("t", num(1))))
	x.gets(c, failed(6, api.ErrProgram))
	x.advance()
	x.did(c, query(7, get("t", txt(""))))
	x.flush()
	x.gets(c, done(5, 8, api.OK, rowsOf(nums(1, 10))), done(7, 9, api.ErrRow, code(api.ErrRow)))
	x.did(c, query(8))
	x.gets(c, done(8, 9, api.OK))
	x.holds()
}

// What a client asked ahead of a bye is told all the same.
func TestRepliesToWhoHasGone(t *testing.T) {
	x := opens(t, saved(t, dataOf(plain("t"), 1, 10, 2, 20), 7), 1, 20)
	gone, other := x.letIn(), x.letIn()
	x.asks(gone, batch(1, put("t", nums(3, 3)...)), query(2, get("t", num(1))))
	x.feeds(gone, bye(3), telling(api.Reply{Kind: api.PDone, Id: 3}))
	x.asks(other, batch(4, add("t", 1, 1, num(3))))
	x.run()
	x.gets(gone, done(3, 0, api.OK), done(2, 7, api.OK, rowsOf(nums(1, 10))))
	x.advance()
	x.flush()
	x.gets(gone, done(1, 9, api.OK, code(api.OK)))
	x.gets(other, done(4, 9, api.OK, rowsOf(nums(3, 4))))
	x.asks(other, batch(5))
	x.run()
	x.feeds(other, packed(""), telling(api.Reply{Kind: api.PError, Code: api.ErrMessage}))
	x.ends()
	x.gets(other, failed(0, api.ErrMessage), done(5, 10, api.OK))
	x.holds()
}

// long has rows whose text is told in so many bytes in all, and one row more.
func long(t *testing.T, bytes int) *disk.Disk {
	d := dataOf(bigTable())
	for n := int64(0); bytes > 0; n++ {
		d.Apply([]api.Op{put("big", num(n), txt(strings.Repeat("b", min(bytes, api.MaxText))))})
		bytes -= min(bytes, api.MaxText)
	}
	return saved(t, d, 7)
}

func TestRepliesThatAreTooLong(t *testing.T) {
	ask := func(bytes int) (*served, int, api.Reply, api.Reply) {
		x := opens(t, long(t, bytes), 1, 20)
		c := x.letIn()
		x.asks(c, query(1, scan("big")), batch(2, scan("big"), put("big", num(99), txt("x"))))
		x.run()
		return x, c, replyTo(x.ended[0]), replyTo(x.ended[1])
	}
	room := func(y api.Reply) int {
		b, e := mess.Tell(y)
		if e != api.OK {
			t.Fatal(e)
		}
		return api.MaxFrame - len(b)
	}
	_, _, query, _ := ask(63000)
	most := 63000 + room(query)
	for _, more := range []int{0, 1, 5000, 100000} {
		x, c, y, z := ask(most + more)
		if more > 0 {
			y = api.Reply{Kind: api.PError, Id: 1, Code: api.ErrLong, Epoch: 7}
		} else if room(y) != 0 {
			t.Fatal(room(y))
		}
		z = api.Reply{Kind: api.PError, Id: 2, Code: api.ErrLong, Epoch: 9}
		x.gets(c, y)
		x.flush()
		x.gets(c)
		x.advance()
		x.flush()
		x.gets(c, z)
		// It was done all the same.
		x.holds()
		if o := x.ended[1].Out; !o.Committed || len(o.Results) != 2 {
			t.Error(more, o.Committed)
		}
		x.crashes(1, 1)
	}
}

// Ids are the client's own: they may be the same, or the greatest.
func TestRepliesHaveTheirIds(t *testing.T) {
	x := opens(t, saved(t, dataOf(plain("t"), 1, 10), 7), 1, 2)
	c, other := x.letIn(), x.letIn()
	for _, id := range []int{0, 0, 5, api.MaxEpoch} {
		x.asks(c, query(id), batch(id), batch(id))
		x.asks(other, drop(id, "u"))
		x.gets(c, api.Reply{Kind: api.PBusy, Id: id})
		x.gets(other, api.Reply{Kind: api.PBusy, Id: id})
		x.ends()
		x.gets(c, done(id, x.epoch-3, api.OK), done(id, x.epoch-1, api.OK))
		x.gets(other)
	}
}
