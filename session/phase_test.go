package session_test

import (
	"math"
	"strings"
	"testing"

	"hopper/api"
	"hopper/auth"
	"hopper/session"
)

func someDraws() []uint64 {
	return []uint64{0, 1, 5, 256, 1 << 32, 1 << 63, math.MaxInt64, math.MaxUint64 - 1, math.MaxUint64}
}

func someNumbers() []int {
	return []int{0, 1, -1, 3, 256, 1 << 32, math.MinInt64, math.MinInt64 + 1, math.MaxInt64 - 1, math.MaxInt64}
}

// 26.1: New.

func TestNewOfNoTable(t *testing.T) {
	for _, draw := range someDraws() {
		for _, number := range someNumbers() {
			if s, e := session.New(nil, draw, number); s != nil || e != api.ErrNone {
				t.Error(draw, number, s, e)
			}
		}
	}
}

func TestNewOfEachDrawAndNumber(t *testing.T) {
	told := map[string]bool{}
	for _, draw := range someDraws() {
		for _, number := range someNumbers() {
			c := libraryChallenge(draw, number)
			told[c] = true
			l := open(t, theKeys(), draw, number)
			l.becomes(challenged, "", hello(9, "ann"), reply(1, 9, api.OK, c))
			l.becomes(known, "ann", proving(8, libraryProof("k", "ann", c)), reply(2, 8, api.OK, ""))
			l.answers(asking(drop(1)), "", drop(1))
			l.closes(bye(7), reply(3, 7, api.OK, ""))
		}
	}
	if len(told) != len(someDraws())*len(someNumbers()) {
		t.Error(len(told), "challenges")
	}
}

// A table without a name is one: everybody is asked, and nobody is let in.
func TestNewOfAnEmptyTable(t *testing.T) {
	for _, k := range []*auth.Keys{auth.New(), keysOf("ann", "k")} {
		k.Take("ann")
		for _, key := range []string{"k", "", "ann"} {
			l := open(t, k, theDraw, theNumber)
			l.becomes(challenged, "", hello(1, "ann"), reply(1, 1, api.OK, theChallenge()))
			l.closes(proving(2, libraryProof(key, "ann", theChallenge())), refusal(2, api.ErrAuth))
		}
	}
}

// A new session asks the table for nothing, and changes nothing in it.
func TestTheTableStays(t *testing.T) {
	k := theKeys()
	for _, phase := range []int{fresh, challenged, known, closed} {
		l := open(t, k, theDraw, theNumber)
		l.goOn(phase)
		if names := k.Names(); len(names) != 2 || k.Check("ann", "c", libraryProof("k", "ann", "c")) != api.OK || k.Check("bob", "c", libraryProof("b", "bob", "c")) != api.OK {
			t.Error(phase, names)
		}
	}
}

// Draws, numbers and tables of their own: none stands in for another one.
func TestSessionsOfTheirOwn(t *testing.T) {
	one := open(t, keysOf("ann", "k"), 1, 2)
	two := open(t, keysOf("ann", "x"), 2, 1)
	one.becomes(challenged, "", hello(1, "ann"), reply(1, 1, api.OK, libraryChallenge(1, 2)))
	two.state()
	two.becomes(challenged, "", hello(1, "ann"), reply(1, 1, api.OK, libraryChallenge(2, 1)))
	two.becomes(known, "ann", proving(1, libraryProof("x", "ann", libraryChallenge(2, 1))), reply(2, 1, api.OK, ""))
	one.state()
	one.closes(proving(1, libraryProof("x", "ann", libraryChallenge(1, 2))), refusal(1, api.ErrAuth))
	two.answers(asking(drop(4)), "", drop(4))
}

// The table of bodies, with each kind of request, each Id and each phase.

// comesTo is what the chapter's table says of a request that may be, its Text being right, if there is one.
func comesTo(phase int, x api.Request) (out string, passed []api.Request, then int) {
	switch {
	case x.Kind == api.MBye:
		return reply(3, x.Id, api.OK, ""), nil, closed
	case phase == fresh && x.Kind == api.MHello:
		return reply(1, x.Id, api.OK, theChallenge()), nil, challenged
	case phase == challenged && x.Kind == api.MProof && x.Text != "":
		return reply(2, x.Id, api.OK, ""), nil, known
	case phase == challenged && x.Kind == api.MProof:
		return refusal(x.Id, api.ErrAuth), nil, closed
	case phase == known && x.Kind != api.MHello && x.Kind != api.MProof:
		return "", []api.Request{x}, known
	}
	return refusal(x.Id, api.ErrPhase), nil, closed
}

func TestEachRequestInEachPhase(t *testing.T) {
	kinds := map[int]bool{}
	for _, phase := range openPhases() {
		for _, x := range someRequests() {
			kinds[x.Kind] = true
			for _, x.Id = range someIds() {
				l := inPhase(t, phase)
				out, passed, then := comesTo(phase, x)
				switch then {
				case closed:
					l.closes(asking(x), out)
				case known:
					l.becomes(known, "ann", asking(x), out, passed...)
					l.answers(asking(drop(7)), "", drop(7))
				default:
					l.becomes(then, "", asking(x), out)
				}
			}
		}
	}
	if len(kinds) != 8 {
		t.Error(kinds)
	}
}

func TestEachRequestWhenClosed(t *testing.T) {
	l := inPhase(t, closed)
	for _, x := range someRequests() {
		for _, x.Id = range someIds() {
			l.refuses(asking(x), api.ErrClosed)
		}
	}
}

// Replies hang on no other packet's Id.
func TestIdsMayBeTheSameOrFall(t *testing.T) {
	for _, ids := range [][3]int{{7, 7, 7}, {9, 5, 1}, {0, 0, 0}, {api.MaxEpoch, 0, api.MaxEpoch}} {
		l := open(t, theKeys(), theDraw, theNumber)
		l.becomes(challenged, "", hello(ids[0], "ann"), reply(1, ids[0], api.OK, theChallenge()))
		l.becomes(known, "ann", proving(ids[1], theProof()), reply(2, ids[1], api.OK, ""))
		l.answers(inRow(drop(ids[1]), drop(ids[1])), "", drop(ids[1]), drop(ids[1]))
		l.closes(bye(ids[2]), reply(3, ids[2], api.OK, ""))
	}
}

func TestByeInEachPhase(t *testing.T) {
	for _, phase := range openPhases() {
		for _, id := range someIds() {
			inPhase(t, phase).closes(bye(id), reply(3, id, api.OK, ""))
			// A second one has no reply.
			inPhase(t, phase).closes(bye(id)+bye(id+1), reply(3, id, api.OK, ""))
		}
	}
}

// MHello: any name has a challenge, the same one, and is kept; the proof alone tells them apart.

func namesThatMayNotBe() []string {
	return []string{"", "Ann", "ann ", " ann", "a-b", "\x00", "ann\x00", "\xff", "\u00e9", strings.Repeat("a", 33), mixed(1000), strings.Repeat("a", api.MaxFrame-24)}
}

func TestHelloOfEachName(t *testing.T) {
	names := append(namesThatMayNotBe(), "ann", "bob", "an", "anna", "zoe", ".", strings.Repeat("z", 32))
	for _, name := range names {
		for _, key := range []string{"k", "b", "", name} {
			l := open(t, theKeys(), theDraw, theNumber)
			l.becomes(challenged, "", hello(4, name), reply(1, 4, api.OK, theChallenge()))
			proof := proving(5, libraryProof(key, name, theChallenge()))
			if name == "ann" && key == "k" || name == "bob" && key == "b" {
				l.becomes(known, name, proof, reply(2, 5, api.OK, ""))
			} else {
				l.closes(proof, refusal(5, api.ErrAuth))
			}
		}
	}
}

// The name is kept as it was sent: one that is near another one's is not taken for it.
func TestHelloOfNamesThatAreNear(t *testing.T) {
	long := strings.Repeat("z", 32)
	for _, near := range []string{
		"Ann", "ANN", "ann ", " ann", "ann\n", "ann\x00", "\x00ann", "ann.", "an", "nn", "anna", "ann\x00" + theChallenge(), "", long + "z", long[1:], long + "\x00", strings.ToUpper(long),
	} {
		for _, name := range []string{"ann", long} {
			l := open(t, keysOf("ann", "k", long, "k"), theDraw, theNumber)
			l.becomes(challenged, "", hello(4, near), reply(1, 4, api.OK, theChallenge()))
			l.closes(proving(5, libraryProof("k", name, theChallenge())), refusal(5, api.ErrAuth))
		}
	}
}

// Each name that may be is told by Name, as it was kept.
func TestNameOfWhoIsKnown(t *testing.T) {
	for _, name := range []string{"a", "ann", ".", "0", "a.b", strings.Repeat("z", 32), strings.Repeat(".", 31)} {
		l := open(t, keysOf(name, "key", "other", "key"), theDraw, theNumber)
		l.becomes(challenged, "", hello(0, name), reply(1, 0, api.OK, theChallenge()))
		l.becomes(known, name, proving(0, libraryProof("key", name, theChallenge())), reply(2, 0, api.OK, ""))
		// What is asked behind it has names, too.
		x := api.Request{Kind: api.MDrop, Name: "other"}
		l.answers(asking(x), "", x)
		x = api.Request{Kind: api.MCall, Name: "bob"}
		l.answers(asking(x), "", x)
		l.closes(hello(6, "other"), refusal(6, api.ErrPhase))
	}
}

func TestHelloTwice(t *testing.T) {
	for _, second := range []string{"ann", "bob", "", "A"} {
		l := inPhase(t, challenged)
		l.closes(hello(6, second), refusal(6, api.ErrPhase))
		l = inPhase(t, fresh)
		l.closes(hello(1, "ann")+hello(6, second)+proving(7, theProof()), reply(1, 1, api.OK, theChallenge())+refusal(6, api.ErrPhase))
		l = inPhase(t, known)
		l.closes(hello(6, second), refusal(6, api.ErrPhase))
	}
}

// Two sessions of one table, by turns: neither tells what the other one does.
func TestTwoSessionsByTurns(t *testing.T) {
	k := theKeys()
	one, two := open(t, k, theDraw, 0), open(t, k, theDraw, 1)
	c0, c1 := libraryChallenge(theDraw, 0), libraryChallenge(theDraw, 1)
	both := func() {
		t.Helper()
		one.state()
		two.state()
	}
	one.answers(hello(1, "ann")[:9], "")
	two.becomes(challenged, "", hello(2, "bob"), reply(1, 2, api.OK, c1))
	both()
	one.becomes(challenged, "", hello(1, "ann")[9:], reply(1, 1, api.OK, c0))
	both()
	two.answers(proving(3, libraryProof("b", "bob", c1))[:20], "")
	one.becomes(known, "ann", proving(3, libraryProof("k", "ann", c0)), reply(2, 3, api.OK, ""))
	both()
	two.becomes(known, "bob", proving(3, libraryProof("b", "bob", c1))[20:], reply(2, 3, api.OK, ""))
	both()
	one.answers(asking(drop(1))[:5], "")
	two.answers(asking(drop(2)), "", drop(2))
	two.closes(bye(5), reply(3, 5, api.OK, ""))
	both()
	one.answers(asking(drop(1))[5:], "", drop(1))
	// A proof of the one is none of the other.
	three := open(t, k, theDraw, 2)
	three.becomes(challenged, "", hello(1, "ann"), reply(1, 1, api.OK, libraryChallenge(theDraw, 2)))
	three.closes(proving(2, libraryProof("k", "ann", c0)), refusal(2, api.ErrAuth))
	one.answers(asking(drop(9)), "", drop(9))
	// The same client comes twice.
	four := open(t, k, theDraw, 0)
	four.becomes(challenged, "", hello(1, "ann"), reply(1, 1, api.OK, c0))
	four.becomes(known, "ann", proving(3, libraryProof("k", "ann", c0)), reply(2, 3, api.OK, ""))
	one.closes(bye(1), reply(3, 1, api.OK, ""))
	four.answers(asking(drop(9)), "", drop(9))
}
