package session_test

import (
	"math"
	"slices"
	"strings"
	"testing"

	"hopper/api"
)

// 26.2: how many bytes a Feed takes, and how they are cut.

func TestFeedOfNothing(t *testing.T) {
	for _, phase := range openPhases() {
		l := inPhase(t, phase)
		for range 3 {
			l.answers("", "")
		}
		// Within a packet, too.
		for _, cut := range []int{1, 4, 5, 19} {
			l = inPhase(t, phase)
			l.answers(bye(6)[:cut], "")
			for range 3 {
				l.answers("", "")
			}
			l.closes(bye(6)[cut:], reply(3, 6, api.OK, ""))
		}
	}
	inPhase(t, closed).refuses("", api.ErrClosed)
}

// A piece of api.MaxBytes bytes is taken; of one more nothing is, and it is as if it had not come.
func TestFeedOfTheMost(t *testing.T) {
	garbage := strings.Repeat("x", api.MaxBytes)
	for _, phase := range openPhases() {
		l := inPhase(t, phase)
		l.closes(garbage, refusal(0, api.ErrFrame))
		l = inPhase(t, phase)
		l.closes(strings.Repeat("\x00", api.MaxBytes), refusal(0, api.ErrMessage))
		l = inPhase(t, phase)
		l.closes((bye(6) + garbage)[:api.MaxBytes], reply(3, 6, api.OK, ""))
	}
}

func TestFeedOfTooMany(t *testing.T) {
	for _, many := range []int{api.MaxBytes + 1, api.MaxBytes + 2, 2 * api.MaxBytes, 1 << 20} {
		for _, b := range []string{strings.Repeat("x", many), strings.Repeat("\x00", many), strings.Repeat(bye(6), many/20+1), (hello(1, "ann") + proving(2, theProof()) + strings.Repeat(asking(drop(1)), many/25))[:many]} {
			for _, phase := range openPhases() {
				l := inPhase(t, phase)
				l.refuses(b, api.ErrLong)
				l.answers(bye(6)[:7], "")
				l.refuses(b, api.ErrLong)
				l.closes(bye(6)[7:], reply(3, 6, api.OK, ""))
			}
			inPhase(t, closed).refuses(b, api.ErrClosed)
		}
	}
	// All goes on behind it.
	l, long := open(t, theKeys(), theDraw, theNumber), strings.Repeat("x", api.MaxBytes+1)
	l.refuses(long, api.ErrLong)
	l.becomes(challenged, "", hello(1, "ann"), reply(1, 1, api.OK, theChallenge()))
	l.refuses(long, api.ErrLong)
	l.becomes(known, "ann", proving(2, theProof()), reply(2, 2, api.OK, ""))
	l.refuses(long, api.ErrLong)
	l.answers(asking(drop(3))[:9], "")
	l.refuses(long, api.ErrLong)
	l.answers(asking(drop(3))[9:], "", drop(3))
}

// As many packets as one Feed has room for.
func TestFeedOfManyRequests(t *testing.T) {
	empty := api.Request{Kind: api.MBatch, Id: 1}
	n := api.MaxBytes / len(asking(empty))
	l := inPhase(t, known)
	l.answers(strings.Repeat(asking(empty), n), "", slices.Repeat([]api.Request{empty}, n)...)
	rest := api.MaxBytes - n*len(asking(empty))
	l.answers(strings.Repeat(asking(empty), n)+asking(empty)[:rest], "", slices.Repeat([]api.Request{empty}, n)...)
	l.answers(asking(empty)[rest:], "", empty)
	// On top of a packet that lacks one byte.
	greatest := api.Request{Kind: api.MDrop, Name: strings.Repeat("n", api.MaxFrame-24)}
	b := asking(greatest)
	l.answers(b[:len(b)-1], "")
	all := b[len(b)-1:] + inRow(greatest, greatest, greatest) + b
	l.answers(all[:api.MaxBytes], "", slices.Repeat([]api.Request{greatest}, 4)...)
	l.answers(all[api.MaxBytes:], "", greatest)
}

// What is passed on is as it was asked, in its order.
func TestRequestsAsTheyWereAsked(t *testing.T) {
	l := inPhase(t, known)
	for _, x := range passing() {
		l.answers(asking(x), "", x)
	}
	l.answers(inRow(passing()...), "", passing()...)
	back := passing()
	slices.Reverse(back)
	l.answers(inRow(back...), "", back...)
	for _, row := range rows() {
		x := api.Request{Kind: api.MCall, Id: 1, Name: "new", Args: row}
		y := api.Request{Kind: api.MBatch, Id: 2, Ops: []api.Op{{Kind: api.OPut, Table: "t", Row: row}, {Kind: api.OGet, Table: "t", Key: row}, {Kind: api.OScan, To: row}}}
		z := api.Request{Kind: api.MRead, Id: 3, Ops: y.Ops}
		l.answers(inRow(x, y, z), "", x, y, z)
	}
	for _, x := range tables() {
		x := api.Request{Kind: api.MCreate, Id: 5, Table: x}
		l.answers(asking(x), "", x)
	}
	most := api.Request{Kind: api.MRead, Ops: make([]api.Op, 800)}
	if len(asking(most)) < 60000 {
		t.Error(len(asking(most)))
	}
	l.answers(asking(most), "", most)
}

func rows() [][]api.Value {
	var out [][]api.Value
	for _, v := range aRow() {
		out = append(out, []api.Value{v})
	}
	return append(out, nil, aRow(), make([]api.Value, api.MaxRow), []api.Value{
		{Kind: api.VFloat, C: complex(math.Inf(-1), 0)}, {Kind: api.VFloat, C: complex(math.Copysign(0, -1), 0)}, {Kind: api.VFloat, C: complex(5e-324, 0)},
		{Kind: api.VPair, C: complex(math.MaxFloat64, math.Inf(1))}, {Kind: api.VText, S: mixed(api.MaxText)}, {Kind: api.VInt, N: math.MaxInt64},
	})
}

// tables has schemas of every kind, those, too, that a layer above refuses.
func tables() []api.Table {
	wide := api.Table{Name: strings.Repeat("w", 32), Key: 1}
	for at := range api.MaxRow {
		wide.Columns = append(wide.Columns, api.Column{Name: string(rune('a' + at)), Kind: at % 6})
		wide.Indexes = append(wide.Indexes, api.Index{Name: "i" + string(rune('a'+at)), Columns: []int{at, 0}, Unique: at%2 == 0})
	}
	return []api.Table{
		{}, aTable(), wide, {Name: "\x00\xff"}, {Key: -1}, {Columns: []api.Column{{}}}, {Indexes: []api.Index{{}}},
		{Name: "t", Columns: []api.Column{{Name: "a", Kind: api.VInt}}, Key: 1}, {Indexes: []api.Index{{Columns: []int{math.MinInt64, math.MaxInt64}, Unique: true}}},
	}
}

// 26.3: what comes of bytes does not hang on how they are cut.

// stream is a way through, with what comes of it.
type stream struct {
	b, out string
	passed []api.Request
	phase  int
	name   string
}

func streams() []stream {
	in := hello(1, "ann") + proving(2, theProof())
	out := reply(1, 1, api.OK, theChallenge()) + reply(2, 2, api.OK, "")
	some := passing()
	return []stream{
		{"", "", nil, fresh, ""},
		{hello(1, "ann"), reply(1, 1, api.OK, theChallenge()), nil, challenged, ""},
		{hello(1, "ann") + proving(2, theProof())[:30], reply(1, 1, api.OK, theChallenge()), nil, challenged, ""},
		{in, out, nil, known, "ann"},
		{in + inRow(some...), out, some, known, "ann"},
		{in + inRow(some...) + "\x00\x00", out, some, known, "ann"},
		{in + inRow(some...) + bye(9), out + reply(3, 9, api.OK, ""), some, closed, ""},
		{in + inRow(some...) + bye(9) + inRow(some...) + packed("") + length(1<<20) + in, out + reply(3, 9, api.OK, ""), some, closed, ""},
		{in + inRow(some[:3]...) + length(1<<20) + inRow(some...), out + refusal(0, api.ErrFrame), some[:3], closed, ""},
		{in + inRow(some[:3]...) + packed("") + inRow(some...), out + refusal(0, api.ErrMessage), some[:3], closed, ""},
		{in + inRow(some[:1]...) + hello(6, "bob") + inRow(some...), out + refusal(6, api.ErrPhase), some[:1], closed, ""},
		{in + proving(6, theProof()) + inRow(some...), out + refusal(6, api.ErrPhase), nil, closed, ""},
		{hello(1, "ann") + proving(2, "wrong") + inRow(some...) + bye(3), reply(1, 1, api.OK, theChallenge()) + refusal(2, api.ErrAuth), nil, closed, ""},
		{hello(1, "bob") + proving(2, theProof()) + inRow(some...), reply(1, 1, api.OK, theChallenge()) + refusal(2, api.ErrAuth), nil, closed, ""},
		{hello(1, "ann") + hello(2, "ann"), reply(1, 1, api.OK, theChallenge()) + refusal(2, api.ErrPhase), nil, closed, ""},
		{inRow(some...), refusal(0, api.ErrPhase), nil, closed, ""},
		{length(1<<20) + in, refusal(0, api.ErrFrame), nil, closed, ""},
		{packed("") + in, refusal(0, api.ErrMessage), nil, closed, ""},
	}
}

// runs feeds pieces until the session is closed, and looks at all that came of them; behind the closing each piece is refused.
func (x stream) runs(t *testing.T, pieces []string) {
	t.Helper()
	l := open(t, theKeys(), theDraw, theNumber)
	out, passed := "", []api.Request(nil)
	for _, piece := range pieces {
		if l.s.Phase() == closed {
			l.phase, l.name = closed, ""
			l.refuses(piece, api.ErrClosed)
			continue
		}
		more, list, e := l.s.Feed(piece)
		if e != api.OK {
			t.Fatal(e)
		}
		out, passed = out+more, append(passed, list...)
	}
	if out != x.out {
		t.Fatalf("pieces of %.100q: %d bytes %.200q, not %d bytes %.200q", x.b, len(out), out, len(x.out), x.out)
	}
	same(t, passed, x.passed)
	l.phase, l.name = x.phase, x.name
	l.state()
}

func TestStreamsInOnePiece(t *testing.T) {
	for _, x := range streams() {
		x.runs(t, []string{x.b})
	}
}

func TestStreamsInPiecesOfOneLength(t *testing.T) {
	for _, x := range streams() {
		for _, n := range []int{1, 2, 3, 4, 5, 7, 20, 24, 28, 100} {
			var pieces []string
			for piece := range slices.Chunk([]byte(x.b), n) {
				pieces = append(pieces, string(piece))
			}
			x.runs(t, pieces)
		}
	}
}

// Cut in two at each place: within lengths, at their ends, within bodies and between packets.
func TestStreamsCutAtEachPlace(t *testing.T) {
	for _, x := range streams() {
		for cut := range len(x.b) {
			x.runs(t, []string{x.b[:cut], x.b[cut:]})
			x.runs(t, []string{x.b[:cut], "", x.b[cut:], ""})
		}
	}
}

// Each reply goes out as soon as its packet is whole, and not ahead of that.
func TestRepliesComeAtOnce(t *testing.T) {
	byteByByte := func(l *line, phase int, name, b, out string, passed ...api.Request) {
		t.Helper()
		for at := range len(b) - 1 {
			l.answers(b[at:at+1], "")
		}
		l.becomes(phase, name, b[len(b)-1:], out, passed...)
	}
	l := open(t, theKeys(), theDraw, theNumber)
	byteByByte(l, challenged, "", hello(1, "ann"), reply(1, 1, api.OK, theChallenge()))
	byteByByte(l, known, "ann", proving(2, theProof()), reply(2, 2, api.OK, ""))
	for _, x := range passing() {
		byteByByte(l, known, "ann", asking(x), "", x)
	}
	byteByByte(l, closed, "", bye(3), reply(3, 3, api.OK, ""))
	l = inPhase(t, challenged)
	byteByByte(l, closed, "", proving(2, theProof()[1:]), refusal(2, api.ErrAuth))
	l = inPhase(t, fresh)
	byteByByte(l, closed, "", asking(drop(5)), refusal(5, api.ErrPhase))
}

// A session that has passed on much still passes on.
func TestFeedGoesOn(t *testing.T) {
	l := inPhase(t, known)
	for n := range 20000 {
		b := asking(drop(n))
		cut := n % len(b)
		l.answers(b[:cut], "")
		l.answers(b[cut:], "", drop(n))
	}
}
