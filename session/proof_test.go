package session_test

import (
	"strings"
	"testing"

	"hopper/api"
)

// MProof, ahead of MHello and behind it, with texts that are the proof and with others.

// wrongProofs are texts that are not the proof of ann under the challenge.
func wrongProofs() []string {
	proof, c := theProof(), theChallenge()
	out := []string{
		"", "\x00", "k", "ann", c, proof + "\x00", proof + "x", "\x00" + proof, proof + proof, strings.ToUpper(proof) + " ",
		strings.Repeat("\x00", 32), strings.Repeat("\xff", 32), mixed(32), strings.Repeat("x", api.MaxFrame-24),
		libraryProof("x", "ann", c), libraryProof("b", "ann", c), libraryProof("b", "bob", c), libraryProof("k", "bob", c), libraryProof("k", "an", c), libraryProof("k", "", c), libraryProof("", "ann", c),
		libraryProof("k", "ann", libraryChallenge(theDraw+1, theNumber)), libraryProof("k", "ann", libraryChallenge(theDraw, theNumber+1)),
		libraryProof("k", "ann", libraryChallenge(theNumber, theDraw)), libraryProof("k", "ann", libraryChallenge(0, 0)),
		libraryProof("k", "ann", ""), libraryProof("k", "ann", c[1:]), libraryProof("k", "ann", "challenge"), libraryProof("ann", "k", c),
	}
	for at := range len(proof) {
		other := []byte(proof)
		other[at] ^= 1 << (at % 8)
		out = append(out, proof[:at], proof[at+1:], string(other))
	}
	return out
}

func TestProofsBehindHello(t *testing.T) {
	for at, text := range wrongProofs() {
		l := inPhase(t, challenged)
		l.closes(proving(at, text), refusal(at, api.ErrAuth))
	}
	for _, id := range someIds() {
		l := inPhase(t, challenged)
		l.becomes(known, "ann", proving(id, theProof()), reply(2, id, api.OK, ""))
	}
}

// Who has guessed wrongly may not guess again.
func TestOneProofAlone(t *testing.T) {
	for _, text := range []string{"", theProof()[1:], libraryProof("x", "ann", theChallenge())} {
		l := inPhase(t, challenged)
		l.closes(proving(1, text)+proving(2, theProof())+asking(drop(3)), refusal(1, api.ErrAuth))
		l.refuses(proving(2, theProof()), api.ErrClosed)
		l.refuses(hello(2, "ann")+proving(2, theProof()), api.ErrClosed)
	}
}

func TestProofsAheadOfHello(t *testing.T) {
	for at, text := range append(wrongProofs(), theProof()) {
		l := inPhase(t, fresh)
		l.closes(proving(at, text), refusal(at, api.ErrPhase))
		l = inPhase(t, fresh)
		l.closes(proving(at, text)+hello(1, "ann")+proving(2, theProof()), refusal(at, api.ErrPhase))
	}
}

func TestProofsBehindWelcome(t *testing.T) {
	for at, text := range append(wrongProofs(), theProof()) {
		l := inPhase(t, known)
		l.closes(proving(at, text), refusal(at, api.ErrPhase))
	}
	// Also behind requests that were passed on.
	l := inPhase(t, known)
	l.answers(asking(drop(1)), "", drop(1))
	l.closes(asking(drop(2))+proving(3, theProof())+asking(drop(4)), refusal(3, api.ErrPhase), drop(2))
}

// A proof in a packet of another kind is none.
func TestProofsInOtherRequests(t *testing.T) {
	for _, x := range []api.Request{{Kind: api.MHello, Name: theProof()}, {Kind: api.MDrop, Name: theProof()}, {Kind: api.MCall, Name: theProof()}} {
		l := inPhase(t, challenged)
		l.closes(asking(x), refusal(0, api.ErrPhase))
	}
}

// The keys are asked when the proof comes, of the name that was kept; not ahead of it, and not behind it.

func TestKeyPutBehindHello(t *testing.T) {
	k := keysOf("bob", "b")
	l := open(t, k, theDraw, theNumber)
	l.goOn(challenged)
	k.Put("ann", "k")
	l.becomes(known, "ann", proving(2, theProof()), reply(2, 2, api.OK, ""))
}

func TestKeyReplacedBehindHello(t *testing.T) {
	k := theKeys()
	l, old := open(t, k, theDraw, theNumber), open(t, k, theDraw, theNumber)
	l.goOn(challenged)
	old.goOn(challenged)
	k.Put("ann", "new")
	old.closes(proving(2, theProof()), refusal(2, api.ErrAuth))
	l.becomes(known, "ann", proving(2, libraryProof("new", "ann", theChallenge())), reply(2, 2, api.OK, ""))
	// And back.
	l = open(t, k, theDraw, theNumber)
	l.goOn(challenged)
	k.Put("ann", "k")
	l.becomes(known, "ann", proving(2, theProof()), reply(2, 2, api.OK, ""))
}

func TestKeyTakenBehindHello(t *testing.T) {
	k := theKeys()
	l, again := open(t, k, theDraw, theNumber), open(t, k, theDraw, theNumber)
	l.goOn(challenged)
	again.goOn(challenged)
	k.Take("ann")
	l.closes(proving(2, theProof()), refusal(2, api.ErrAuth))
	k.Put("ann", "k")
	again.becomes(known, "ann", proving(2, theProof()), reply(2, 2, api.OK, ""))
	l.refuses(proving(2, theProof()), api.ErrClosed)
}

// A proof of which a part is there is not asked of yet.
func TestKeyChangedWithinAProof(t *testing.T) {
	k := theKeys()
	p := proving(2, theProof())
	for _, cut := range []int{1, 4, 12, 30, len(p) - 1} {
		k.Put("ann", "other")
		l := open(t, k, theDraw, theNumber)
		l.goOn(challenged)
		l.answers(p[:cut], "")
		k.Put("ann", "k")
		l.becomes(known, "ann", p[cut:], reply(2, 2, api.OK, ""))
		l = open(t, k, theDraw, theNumber)
		l.goOn(challenged)
		l.answers(p[:cut], "")
		k.Take("ann")
		l.closes(p[cut:], refusal(2, api.ErrAuth))
	}
}

// Who is in stays in.
func TestKeysChangedBehindWelcome(t *testing.T) {
	k := theKeys()
	l := open(t, k, theDraw, theNumber)
	l.goOn(known)
	k.Put("ann", "new")
	l.answers(asking(drop(1)), "", drop(1))
	k.Take("ann")
	l.answers(asking(drop(2)), "", drop(2))
	k.Put("cat", "c")
	k.Take("bob")
	l.answers(asking(drop(3)), "", drop(3))
	k.Put("ann", "k")
	l.answers(asking(drop(4)), "", drop(4))
	l.closes(bye(5), reply(3, 5, api.OK, ""))
}

func TestKeysChangedAheadOfHello(t *testing.T) {
	k := theKeys()
	l, other := open(t, k, theDraw, theNumber), open(t, k, theDraw, theNumber)
	k.Put("ann", "new")
	k.Put("cat", "c")
	l.goOn(challenged)
	l.closes(proving(2, theProof()), refusal(2, api.ErrAuth))
	other.becomes(challenged, "", hello(1, "cat"), reply(1, 1, api.OK, theChallenge()))
	other.becomes(known, "cat", proving(2, libraryProof("c", "cat", theChallenge())), reply(2, 2, api.OK, ""))
}

// 26.3: until a proof comes the replies do not hang on who is there.
func TestChallengesTellNothingOfKeys(t *testing.T) {
	many := keysOf()
	for _, name := range strings.Split("a b c d e f g h i j k l m n o p", " ") {
		many.Put(name, name)
	}
	first := []string{hello(1, "ann"), proving(1, theProof()), asking(drop(1)), bye(1), packed(""), length(1 << 20), "", "\x00"}
	for _, b := range first {
		var told []string
		for _, l := range []*line{open(t, theKeys(), theDraw, theNumber), open(t, keysOf(), theDraw, theNumber), open(t, many, theDraw, theNumber), open(t, keysOf("ann", "x"), theDraw, theNumber)} {
			out, passed, e := l.s.Feed(b)
			if len(passed) != 0 || e != api.OK {
				t.Errorf("%.40q: %v, %d", b, passed, e)
			}
			told = append(told, out)
		}
		for _, out := range told {
			if out != told[0] {
				t.Errorf("%.40q: %q, and %q", b, out, told[0])
			}
		}
	}
}
