package auth_test

import (
	"encoding/hex"
	"math"
	"strings"
	"testing"

	"hopper/api"
	"hopper/auth"
)

// 25.2, 25.3: who has the key, and nobody else, is let in.

func TestCheckOfEachKey(t *testing.T) {
	c := libraryChallenge(9, 9)
	for _, own := range keysThatMayBe() {
		k := tableOf(t, "ann", own)
		for _, other := range append(keysThatMayBe(), "", mixed(65), mixed(100)) {
			want := api.ErrAuth
			// Bytes 0 behind a key change nothing in an HMAC (chapter 24): the proofs are the same.
			if strings.TrimRight(own, "\x00") == strings.TrimRight(other, "\x00") {
				want = api.OK
			}
			checked(t, k, "ann", c, libraryProof(other, "ann", c), want)
		}
	}
}

// A key of more than 64 bytes counts as its digest: a proof under it is one under that.
func TestCheckOfADigestAsAKey(t *testing.T) {
	long := mixed(100)
	k := tableOf(t, "ann", librarySum(long))
	checked(t, k, "ann", "c", auth.Proof(long, "ann", "c"), api.OK)
	checked(t, k, "ann", "c", auth.Proof(long+"\x00", "ann", "c"), api.ErrAuth)
	checked(t, k, "ann", "c", auth.Proof(long[:64], "ann", "c"), api.ErrAuth)
}

// likeIt are texts that are near a proof, but are not it.
func likeIt(proof string) []string {
	var out []string
	for end := range len(proof) {
		out = append(out, proof[:end])
	}
	for begin := 1; begin < len(proof); begin++ {
		out = append(out, proof[begin:])
	}
	for _, more := range []string{"\x00", "a", "\xff", "\x00\x00", proof[:1], proof[31:], proof} {
		out = append(out, proof+more, more+proof)
	}
	for at := range len(proof) {
		for bit := range 8 {
			b := []byte(proof)
			b[at] ^= 1 << bit
			out = append(out, string(b))
		}
	}
	for _, other := range []string{
		hex.EncodeToString([]byte(proof)), strings.Repeat("\x00", 32), strings.Repeat("\xff", 32), librarySum(proof), "k", "ann", "proof",
	} {
		out = append(out, other)
	}
	backwards := []byte(proof)
	for at := range len(proof) {
		backwards[at] = proof[len(proof)-1-at]
	}
	swapped := proof[16:] + proof[:16]
	return append(out, string(backwards), swapped)
}

func TestCheckOfWhatIsNearAProof(t *testing.T) {
	c := libraryChallenge(5, 0)
	for _, key := range []string{"k", mixed(64), strings.Repeat("\x00", 64)} {
		k := tableOf(t, "ann", key)
		proof := libraryProof(key, "ann", c)
		for _, near := range likeIt(proof) {
			checked(t, k, "ann", c, near, api.ErrAuth)
		}
		checked(t, k, "ann", c, key, api.ErrAuth)
		checked(t, k, "ann", c, c, api.ErrAuth)
		checked(t, k, "ann", c, proof, api.OK)
		checked(t, k, "ann", c, string([]byte(proof)), api.OK)
	}
}

func TestCheckOfNamesThatAreNotThere(t *testing.T) {
	c := libraryChallenge(5, 0)
	empty := auth.New()
	k := tableOf(t, "ann", "k", "ann.", "l")
	for _, name := range append(namesThatMayNotBe(), "an", "anna", "a", "bob", ".", "ann..", "nn", "k") {
		for _, key := range []string{"", "k", "l", "\x00", name} {
			checked(t, empty, name, c, libraryProof(key, name, c), api.ErrAuth)
			checked(t, k, name, c, libraryProof(key, name, c), api.ErrAuth)
			checked(t, k, name, c, libraryProof(key, "ann", c), api.ErrAuth)
		}
		checked(t, empty, name, c, "", api.ErrAuth)
		checked(t, k, name, c, "", api.ErrAuth)
		checked(t, k, name, "", "", api.ErrAuth)
	}
	has(t, k, map[string]string{"ann": "k", "ann.": "l"})
}

func TestCheckUnderAnotherChallenge(t *testing.T) {
	k := tableOf(t, "ann", "k")
	c := libraryChallenge(5, 0)
	proof := libraryProof("k", "ann", c)
	for _, other := range append(likeIt(c), libraryChallenge(6, 0), libraryChallenge(5, 1), libraryChallenge(0, 5), libraryChallenge(5, -1), "ann\x00"+c, "\x00"+c) {
		checked(t, k, "ann", other, proof, api.ErrAuth)
		checked(t, k, "ann", c, libraryProof("k", "ann", other), api.ErrAuth)
		checked(t, k, "ann", other, libraryProof("k", "ann", other), api.OK)
	}
}

// A challenge is any text.
func TestCheckOfAnyChallenge(t *testing.T) {
	k := tableOf(t, "ann", "k")
	for _, c := range []string{"", "\x00", "a", "\xff", mixed(31), mixed(33), mixed(64), mixed(api.MaxBytes), mixed(api.MaxBytes + 1), mixed(1 << 20)} {
		checked(t, k, "ann", c, libraryProof("k", "ann", c), api.OK)
		checked(t, k, "ann", c, libraryProof("x", "ann", c), api.ErrAuth)
		checked(t, k, "ann", c+"\x00", libraryProof("k", "ann", c), api.ErrAuth)
	}
	// All behind a name and a byte 0 is the challenge, a byte 0 in it, too.
	checked(t, k, "ann", "b\x00c", auth.Proof("k", "ann\x00b", "c"), api.OK)
	checked(t, k, "ann\x00b", "c", auth.Proof("k", "ann\x00b", "c"), api.ErrAuth)
}

func TestCheckOfAnotherName(t *testing.T) {
	c := libraryChallenge(5, 0)
	k := tableOf(t, "ann", "k", "bob", "b", "cat", "k", "an", "k", "anna", "k")
	names := map[string]string{"ann": "k", "bob": "b", "cat": "k", "an": "k", "anna": "k"}
	for name, key := range names {
		for other, otherKey := range names {
			want := api.ErrAuth
			if name == other {
				want = api.OK
			}
			checked(t, k, name, c, libraryProof(otherKey, other, c), want)
			if key != otherKey {
				checked(t, k, name, c, libraryProof(otherKey, name, c), api.ErrAuth)
				checked(t, k, name, c, libraryProof(key, other, c), api.ErrAuth)
			}
		}
	}
}

// The name and the challenge are not one text: what goes from the one to the other is another proof.
func TestCheckOfANameThatGoesOn(t *testing.T) {
	k := tableOf(t, "an", "k", "ann", "k", "anna", "k")
	proof := libraryProof("k", "ann", "abc")
	checked(t, k, "ann", "abc", proof, api.OK)
	checked(t, k, "an", "nabc", proof, api.ErrAuth)
	checked(t, k, "anna", "bc", proof, api.ErrAuth)
	checked(t, k, "ann", "abc", libraryMac("k", "annabc"), api.ErrAuth)
	checked(t, k, "ann", "abc", libraryMac("k", "abc\x00ann"), api.ErrAuth)
	checked(t, k, "ann", "abc", libraryMac("k", "abc"), api.ErrAuth)
	checked(t, k, "ann", "abc", libraryMac("ann", "k\x00abc"), api.ErrAuth)
	checked(t, k, "ann", "abc", librarySum("kann\x00abc"), api.ErrAuth)
}

func TestCheckBehindAnotherKey(t *testing.T) {
	c := libraryChallenge(5, 0)
	k := auth.New()
	keys := []string{"k", "x", "xy", "y", mixed(64), mixed(63), "\x00", "k"}
	for at, key := range keys {
		put(t, k, "ann", key, api.OK)
		for back, older := range keys {
			want := api.ErrAuth
			if keys[at] == keys[back] {
				want = api.OK
			}
			checked(t, k, "ann", c, libraryProof(older, "ann", c), want)
		}
	}
}

func TestCheckBehindTakeAndPut(t *testing.T) {
	c := libraryChallenge(5, 0)
	k := tableOf(t, "ann", "k", "bob", "b")
	old := libraryProof("k", "ann", c)
	take(t, k, "ann", api.OK)
	checked(t, k, "ann", c, old, api.ErrAuth)
	checked(t, k, "bob", c, libraryProof("b", "bob", c), api.OK)
	put(t, k, "ann", "new", api.OK)
	checked(t, k, "ann", c, old, api.ErrAuth)
	checked(t, k, "ann", c, libraryProof("new", "ann", c), api.OK)
	put(t, k, "ann", "k", api.OK)
	checked(t, k, "ann", c, old, api.OK)
}

// A proof is right however often it is asked, and whatever was asked in between.
func TestCheckTakesNothing(t *testing.T) {
	c := libraryChallenge(0, 0)
	k := tableOf(t, "ann", "k")
	proof := libraryProof("k", "ann", c)
	for range 100 {
		checked(t, k, "ann", c, proof, api.OK)
		checked(t, k, "ann", c, proof[1:], api.ErrAuth)
		checked(t, k, "bob", c, proof, api.ErrAuth)
	}
	has(t, k, map[string]string{"ann": "k"})
}

func TestTwoTablesByTurns(t *testing.T) {
	one, two := auth.New(), auth.New()
	put(t, one, "ann", "k", api.OK)
	named(t, two)
	take(t, two, "ann", api.ErrNone)
	put(t, two, "ann", "x", api.OK)
	put(t, two, "bob", "b", api.OK)
	has(t, one, map[string]string{"ann": "k"})
	has(t, two, map[string]string{"ann": "x", "bob": "b"})
	c := libraryChallenge(3, 3)
	checked(t, one, "ann", c, libraryProof("x", "ann", c), api.ErrAuth)
	checked(t, two, "ann", c, libraryProof("k", "ann", c), api.ErrAuth)
	checked(t, one, "bob", c, libraryProof("b", "bob", c), api.ErrAuth)
	take(t, one, "ann", api.OK)
	has(t, one, map[string]string{})
	has(t, two, map[string]string{"ann": "x", "bob": "b"})
	put(t, one, "bob", "other", api.OK)
	take(t, two, "ann", api.OK)
	has(t, one, map[string]string{"bob": "other"})
	has(t, two, map[string]string{"bob": "b"})
}

// One that is full leaves the other one room.
func TestAFullTableBesideAnother(t *testing.T) {
	k, _ := full(t)
	other := tableOf(t, "a", "key")
	put(t, k, "a", "key", api.ErrLong)
	put(t, other, "b", "key", api.OK)
	has(t, other, map[string]string{"a": "key", "b": "key"})
}

// The proofs that clients make go with the challenges that they were told.
func TestProofsOfChallenges(t *testing.T) {
	k := tableOf(t, "ann", "k", "bob", "b")
	for _, draw := range []uint64{0, 1, 5, math.MaxUint64} {
		for _, number := range []int{0, 1, -1, math.MaxInt64, math.MinInt64} {
			c := auth.Challenge(draw, number)
			checked(t, k, "ann", c, auth.Proof("k", "ann", c), api.OK)
			checked(t, k, "bob", c, auth.Proof("b", "bob", c), api.OK)
			checked(t, k, "bob", c, auth.Proof("k", "bob", c), api.ErrAuth)
			checked(t, k, "ann", c, auth.Proof("k", "ann", auth.Challenge(draw+1, number)), api.ErrAuth)
			checked(t, k, "ann", c, auth.Proof("k", "ann", auth.Challenge(draw, number^1)), api.ErrAuth)
		}
	}
}
