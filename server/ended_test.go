package server_test

import (
	"fmt"
	"testing"

	"hopper/api"
)

// 27.5: Ended.

func (x *served) endedAre(want ...string) {
	x.Helper()
	var got []string
	for _, y := range x.s.Ended() {
		got = append(got, fmt.Sprint(y.Conn, ":", y.X.Id, " ", y.Out.Committed, " ", y.Out.Epoch))
	}
	if fmt.Sprint(got) != fmt.Sprint(want) {
		x.Fatalf("%q, not %q", got, want)
	}
}

func TestEndedInOrder(t *testing.T) {
	x := opens(t, saved(t, dataOf(plain("t"), 1, 10, 2, 20), 7), 3, 6)
	a, b := x.letIn(), x.letIn()
	x.endedAre()
	x.asks(a, batch(1, put("t", nums(1, 1)...), put("t", nums(3, 3)...)), batch(2, get("t", num(2))))
	x.asks(b, query(3, get("t", num(1))), create(4, plain("u")), drop(5, "t"), batch(6, get("t", num(1))), query(7), query(8))
	// There is no room for the last two, and they do not end.
	x.endedAre()
	x.toil(2)
	x.toil(0)
	x.endedAre()
	x.work(1)
	x.endedAre("1:3 true 7")
	for x.at[0] != nil {
		x.work(0)
	}
	x.endedAre("1:3 true 7", "0:2 true 9")
	x.advance()
	for x.at[2] != nil {
		x.work(2)
	}
	epoch := x.ended[2].Out.Epoch
	first := fmt.Sprint("0:1 true ", epoch)
	x.endedAre("1:3 true 7", "0:2 true 9", first)
	x.asks(a, batch(9))
	x.feeds(a, bye(10), telling(api.Reply{Kind: api.PDone, Id: 10}))
	x.run()
	x.endedAre("1:3 true 7", "0:2 true 9", first, "1:4 true 10", "1:5 true 10", "1:6 false 10", "0:9 true 10")
	x.ends()
	x.endedAre("1:3 true 7", "0:2 true 9", first, "1:4 true 10", "1:5 true 10", "1:6 false 10", "0:9 true 10")
	x.holds()
	// Another server's are its own.
	y := x.crashes(1, 4)
	y.endedAre()
	y.did(y.letIn(), query(1))
	y.endedAre("0:1 true 10")
}

// Each request is told as it was asked.
func TestEndedHasRequests(t *testing.T) {
	x := opens(t, saved(t, dataOf(plain("t"), 1, 10), 7), 1, 50)
	c := x.letIn()
	strange := api.Table{Name: "\x00", Columns: []api.Column{{Name: "", Kind: -7}}, Key: -1, Indexes: []api.Index{{Name: "i", Columns: []int{5, -5}, Unique: true}, {}}}
	all := row{null(), {Kind: api.VBool, N: 1}, num(-5), {Kind: api.VFloat, C: 1.5}, {Kind: api.VPair, C: 1 - 2i}, txt("\xff\x00")}
	list := []api.Request{
		batch(1), query(2), create(3, strange), drop(4, "\x00\xff"), call(5, ""), {Kind: api.MCall, Id: 6, Name: "pay", Args: all},
		batch(7, api.Op{Kind: -9, Table: "\x00", Key: all, To: all, Row: all, Index: "\xff", At: -1, N: -1 << 63, Limit: 1<<63 - 1}),
		query(8, api.Op{Kind: api.OScan, Table: "t", Key: all, To: all[:1], Limit: 7}),
		create(api.MaxEpoch, indexed("u")),
	}
	x.asks(c, list...)
	x.run()
	got := x.s.Ended()
	if len(got) != len(list) {
		t.Fatal(len(got))
	}
	for at, y := range got {
		if asking(y.X) != asking(list[at]) || y.Conn != c || y.Out.Worker != 0 || y.Out.Number != 0 {
			t.Errorf("%d: %s", at, lookOfDone(y))
		}
	}
	x.holds()
}
