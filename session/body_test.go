package session_test

import (
	"math"
	"strings"
	"testing"

	"hopper/api"
	"hopper/mess"
)

// Bodies that are no request that may be: PError, the Id 0, ErrMessage, in each phase.

// isNoRequest looks at a body in each phase, alone and among others.
func isNoRequest(t *testing.T, b string) {
	t.Helper()
	for _, phase := range openPhases() {
		l := inPhase(t, phase)
		l.closes(packed(b), refusal(0, api.ErrMessage))
		l = inPhase(t, phase)
		l.closes(packed(b)+bye(1)+packed(b), refusal(0, api.ErrMessage))
	}
	l := inPhase(t, known)
	l.closes(asking(drop(7))+packed(b)+asking(drop(8)), refusal(0, api.ErrMessage), drop(7))
	inPhase(t, closed).refuses(packed(b), api.ErrClosed)
}

func TestBodiesThatAreNoRequest(t *testing.T) {
	for _, b := range []string{
		"", "\x00", "x", "\x01", "\x08", "\xff", "bye", mixed(16), mixed(100), strings.Repeat("\x00", 16), strings.Repeat("\xff", 16),
		strings.Repeat("\x00", api.MaxFrame), strings.Repeat("x", api.MaxFrame), mixed(api.MaxFrame),
	} {
		isNoRequest(t, b)
	}
}

func TestBodiesWithAByteMoreOrLess(t *testing.T) {
	for _, x := range someRequests() {
		for _, x.Id = range []int{0, 9} {
			b := body(x)
			for _, cut := range []int{0, 1, 7, 8, 9, 15, 16, len(b) / 2, len(b) - 1} {
				if cut < len(b) {
					isNoRequest(t, b[:cut])
				}
			}
			isNoRequest(t, b+"\x00")
			isNoRequest(t, b+"x")
			isNoRequest(t, b[1:])
			isNoRequest(t, b+b)
			isNoRequest(t, packed(b))
		}
	}
}

// Kinds and Ids that may not be.
func TestBodiesOfOtherKindsAndIds(t *testing.T) {
	for _, n := range []int{0, 9, 10, -1, 256 + 1, 1<<32 + 8, math.MinInt64, math.MaxInt64} {
		isNoRequest(t, num(n)+num(0))
		isNoRequest(t, num(n)+num(5))
		isNoRequest(t, num(n)+num(0)+txt("ann"))
	}
	for _, x := range someRequests() {
		b := body(x)
		for _, id := range []int{-1, api.MaxEpoch + 1, 1 << 32, math.MinInt64, math.MaxInt64} {
			isNoRequest(t, b[:8]+num(id)+b[16:])
		}
	}
}

// The fields of one kind behind another kind's number.
func TestBodiesWithFieldsOfAnotherKind(t *testing.T) {
	long := []api.Request{{Kind: api.MHello, Name: "ann"}, {Kind: api.MProof, Text: "text"}, {Kind: api.MBatch, Ops: someOps()}, {Kind: api.MCreate, Table: aTable()}, {Kind: api.MCall, Name: "pay", Args: aRow()}}
	for _, x := range long {
		isNoRequest(t, num(api.MBye)+body(x)[8:])
	}
	bare := num(api.MBye) + num(1)
	for kind := api.MHello; kind <= api.MCall; kind++ {
		isNoRequest(t, num(kind)+bare[8:])
		isNoRequest(t, num(kind)+num(1)+num(-1))
		isNoRequest(t, num(kind)+num(1)+num(1<<20))
		isNoRequest(t, num(kind)+num(1)+num(math.MaxInt64))
	}
	isNoRequest(t, num(api.MHello)+body(long[4])[8:])
	isNoRequest(t, num(api.MHello)+body(long[3])[8:])
	isNoRequest(t, num(api.MBatch)+body(long[0])[8:])
	isNoRequest(t, num(api.MCreate)+body(long[0])[8:])
	isNoRequest(t, num(api.MCall)+body(long[0])[8:])
}

// Values, lists and rows that may not be.
func TestBodiesWithPartsThatMayNotBe(t *testing.T) {
	op := func(row string) string {
		return num(1) + txt("t") + txt(row) + txt("\x00") + txt("\x00") + txt("") + num(0) + num(0) + num(0)
	}
	if b := num(api.MBatch) + num(1) + num(1) + op("\x00"); b != body(api.Request{Kind: api.MBatch, Id: 1, Ops: []api.Op{{Kind: 1, Table: "t"}}}) {
		t.Fatal("the operation is another one")
	}
	for _, row := range []string{"", "\x01", "\x00\x00", "\x01\x09", "\x01\x01\x02", "\x01\x02\x00", "\x21" + strings.Repeat("\x00", 33)} {
		isNoRequest(t, num(api.MBatch)+num(1)+num(1)+op(row))
		isNoRequest(t, num(api.MRead)+num(1)+num(2)+op("\x00")+op(row))
		isNoRequest(t, num(api.MCall)+num(1)+txt("pay")+txt(row))
	}
	isNoRequest(t, num(api.MRead)+num(1)+num(2)+op("\x00"))
	isNoRequest(t, num(api.MRead)+num(1)+num(1)+op("\x00")+op("\x00"))
	isNoRequest(t, num(api.MCreate)+num(1)+txt("t")+num(0)+num(1)+num(1)+txt("i")+num(0)+"\x02")
	isNoRequest(t, num(api.MRead)+num(1)+num(api.MaxItems+1))
}

// Replies' bytes are no requests, but for those that happen to be both: an empty PBusy is an empty MCreate.
func TestBodiesThatAreReplies(t *testing.T) {
	for kind := api.PChallenge; kind <= api.PBusy; kind++ {
		for _, r := range []api.Reply{
			{Kind: kind, Text: "text"}, {Kind: kind, Id: 1, Code: api.ErrPhase}, {Kind: kind, Id: 2, Epoch: 3},
			{Kind: kind, Results: []api.Result{{Code: 5, Rows: [][]api.Value{aRow()}}}}, {Kind: kind, Id: 1, Text: theChallenge()},
		} {
			b, e := mess.Tell(r)
			if e != api.OK {
				t.Fatal(r)
			}
			isNoRequest(t, b)
		}
	}
	b, _ := mess.Tell(api.Reply{Kind: api.PBusy, Id: 7})
	inPhase(t, known).becomes(known, "ann", packed(b), "", api.Request{Kind: api.MCreate, Id: 7})
}

// A body that is no request is told as such, whatever its kind may ask in the phase; and a kind that may not come ahead of what is wrong with it otherwise.
func TestWhichErrorIsTold(t *testing.T) {
	for _, phase := range openPhases() {
		inPhase(t, phase).closes(packed(num(api.MBye)+num(-1)), refusal(0, api.ErrMessage))
		inPhase(t, phase).closes(packed(num(api.MBatch)+num(5)), refusal(0, api.ErrMessage))
		inPhase(t, phase).closes(packed(num(api.MProof)+num(5)+txt(theProof())+"x"), refusal(0, api.ErrMessage))
		inPhase(t, phase).closes(packed(num(api.MHello)+num(api.MaxEpoch+1)+txt("ann")), refusal(0, api.ErrMessage))
	}
	// A proof that is wrong where none may come.
	inPhase(t, fresh).closes(proving(5, "wrong"), refusal(5, api.ErrPhase))
	inPhase(t, known).closes(proving(5, "wrong"), refusal(5, api.ErrPhase))
	// The first that closes is told, and no other.
	inPhase(t, challenged).closes(proving(5, "wrong")+packed("")+length(1<<20), refusal(5, api.ErrAuth))
	inPhase(t, known).closes(packed("")+proving(5, "")+length(1<<20), refusal(0, api.ErrMessage))
	inPhase(t, known).closes(hello(5, "")+packed("")+length(1<<20), refusal(5, api.ErrPhase))
	inPhase(t, known).closes(length(1<<20)+hello(5, "")+packed(""), refusal(0, api.ErrFrame))
	inPhase(t, known).closes(bye(5)+packed("")+length(1<<20), reply(3, 5, api.OK, ""))
}

// Lengths.

func tooGreat() []uint32 {
	return []uint32{api.MaxFrame + 1, api.MaxFrame + 2, 1 << 17, 1 << 24, math.MaxInt32, 1 << 31, math.MaxUint32}
}

func TestLengthsThatAreTooGreat(t *testing.T) {
	for _, n := range tooGreat() {
		for _, behind := range []string{"", "x", bye(1), hello(1, "ann"), length(n), strings.Repeat("x", api.MaxFrame+1)} {
			for _, phase := range openPhases() {
				inPhase(t, phase).closes(length(n)+behind, refusal(0, api.ErrFrame))
			}
			inPhase(t, closed).refuses(length(n)+behind, api.ErrClosed)
		}
		// Behind packets of which each has its reply, or is passed on.
		l := inPhase(t, fresh)
		l.closes(hello(7, "ann")+length(n), reply(1, 7, api.OK, theChallenge())+refusal(0, api.ErrFrame))
		l = inPhase(t, challenged)
		l.closes(proving(7, theProof())+length(n), reply(2, 7, api.OK, "")+refusal(0, api.ErrFrame))
		l = inPhase(t, known)
		l.closes(inRow(drop(1), drop(2))+length(n)+asking(drop(3)), refusal(0, api.ErrFrame), drop(1), drop(2))
		l = inPhase(t, fresh)
		l.closes(hello(7, "ann")+proving(8, theProof())+asking(drop(9))+length(n),
			reply(1, 7, api.OK, theChallenge())+reply(2, 8, api.OK, "")+refusal(0, api.ErrFrame), drop(9))
	}
}

// A length is met when its last byte comes.
func TestLengthsThatComeInPieces(t *testing.T) {
	for _, n := range tooGreat() {
		for cut := range 4 {
			for _, phase := range openPhases() {
				l := inPhase(t, phase)
				l.answers(length(n)[:cut], "")
				l.closes(length(n)[cut:], refusal(0, api.ErrFrame))
			}
			l := inPhase(t, known)
			l.answers(asking(drop(1))+length(n)[:cut], "", drop(1))
			l.closes(length(n)[cut:]+asking(drop(2)), refusal(0, api.ErrFrame))
		}
	}
}

// Behind a closing a length is not looked at: there is one reply.
func TestLengthsBehindAClosing(t *testing.T) {
	for _, n := range tooGreat() {
		for _, phase := range openPhases() {
			inPhase(t, phase).closes(bye(4)+length(n), reply(3, 4, api.OK, ""))
			inPhase(t, phase).closes(packed("x")+length(n), refusal(0, api.ErrMessage))
			inPhase(t, phase).closes(bye(4)+length(n)[:2], reply(3, 4, api.OK, ""))
		}
		inPhase(t, fresh).closes(asking(drop(4))+length(n), refusal(4, api.ErrPhase))
		inPhase(t, challenged).closes(proving(4, "")+length(n), refusal(4, api.ErrAuth))
	}
}

// The greatest length that may be: of requests, and of what is none.
func TestTheGreatestLength(t *testing.T) {
	room := api.MaxFrame - 24
	name, text := strings.Repeat("n", room), mixed(room)
	l := inPhase(t, fresh)
	l.becomes(challenged, "", hello(1, name), reply(1, 1, api.OK, theChallenge()))
	l.closes(proving(2, text), refusal(2, api.ErrAuth))
	x := api.Request{Kind: api.MDrop, Id: 3, Name: name}
	if len(asking(x)) != api.MaxFrame+4 {
		t.Fatal(len(asking(x)))
	}
	l = inPhase(t, known)
	l.answers(inRow(x, drop(4), x), "", x, drop(4), x)
	l.answers(asking(x)[:api.MaxFrame+3], "")
	l.answers(asking(x)[api.MaxFrame+3:], "", x)
	l.closes(packed(strings.Repeat("x", api.MaxFrame))+asking(x), refusal(0, api.ErrMessage))
	l = inPhase(t, known)
	l.answers(length(api.MaxFrame)+strings.Repeat("x", api.MaxFrame-1), "")
	l.closes("x", refusal(0, api.ErrMessage))
	// One more, of what would be a request.
	l = inPhase(t, known)
	l.closes(packed(num(api.MDrop)+num(3)+txt(name+"n")), refusal(0, api.ErrFrame))
}
