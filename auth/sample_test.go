package auth_test

import (
	"crypto/hmac"
	"crypto/sha256"
	"encoding/binary"
	"encoding/hex"
	"fmt"
	"maps"
	"slices"
	"strings"
	"testing"

	"hopper/api"
	"hopper/auth"
)

// What is held against the package: Go's own library, so that the tests do not hang on chapter 24's calls.

func librarySum(b string) string {
	d := sha256.Sum256([]byte(b))
	return string(d[:])
}

func libraryMac(key, b string) string {
	h := hmac.New(sha256.New, []byte(key))
	h.Write([]byte(b))
	return string(h.Sum(nil))
}

func libraryChallenge(draw uint64, number int) string {
	b := binary.LittleEndian.AppendUint64([]byte("challenge"), draw)
	return librarySum(string(binary.LittleEndian.AppendUint64(b, uint64(int64(number)))))
}

func libraryProof(key, name, challenge string) string {
	return libraryMac(key, name+"\x00"+challenge)
}

// The checks: a call that changes nothing is made twice.

func put(t *testing.T, k *auth.Keys, name, key string, want api.Errno) {
	t.Helper()
	e := k.Put(name, key)
	if e == want && e != api.OK {
		e = k.Put(name, key)
	}
	if e != want {
		t.Errorf("Put of %.80q and a key of %d bytes %.20q: %d, not %d", name, len(key), key, e, want)
	}
}

func take(t *testing.T, k *auth.Keys, name string, want api.Errno) {
	t.Helper()
	e := k.Take(name)
	if e == want && e != api.OK {
		e = k.Take(name)
	}
	if e != want {
		t.Errorf("Take of %.80q: %d, not %d", name, e, want)
	}
}

func named(t *testing.T, k *auth.Keys, want ...string) {
	t.Helper()
	for range 2 {
		if got := k.Names(); !slices.Equal(got, want) {
			t.Errorf("Names: %d %.200q, not %d %.200q", len(got), got, len(want), want)
		}
	}
}

func checked(t *testing.T, k *auth.Keys, name, challenge, proof string, want api.Errno) {
	t.Helper()
	for range 2 {
		if e := k.Check(name, challenge, proof); e != want {
			t.Errorf("Check of %.80q, a challenge of %d bytes %.20q, and a proof of %d bytes %.70q: %d, not %d", name, len(challenge), challenge, len(proof), proof, e, want)
		}
	}
}

func challenged(t *testing.T, draw uint64, number int, want string) {
	t.Helper()
	for range 2 {
		if got := auth.Challenge(draw, number); got != want {
			t.Errorf("Challenge of %d and %d: %x, not %x", draw, number, got, want)
		}
	}
}

func proved(t *testing.T, key, name, challenge, want string) {
	t.Helper()
	for range 2 {
		if got := auth.Proof(key, name, challenge); got != want {
			t.Errorf("Proof of a key of %d bytes %.20q, of %.80q and of %d bytes %.40q: %x, not %x", len(key), key, name, len(challenge), challenge, got, want)
		}
	}
}

// has looks whether the table has just these names, with these keys.
func has(t *testing.T, k *auth.Keys, want map[string]string) {
	t.Helper()
	named(t, k, slices.Sorted(maps.Keys(want))...)
	c := libraryChallenge(77, 7)
	for name, key := range want {
		checked(t, k, name, c, libraryProof(key, name, c), api.OK)
		checked(t, k, name, c, libraryProof(key+"\x01", name, c), api.ErrAuth)
	}
}

// tableOf has names and keys, by turns.
func tableOf(t *testing.T, list ...string) *auth.Keys {
	t.Helper()
	k := auth.New()
	for at := 0; at < len(list); at += 2 {
		put(t, k, list[at], list[at+1], api.OK)
	}
	return k
}

// numbered are so many names, rising.
func numbered(many int) []string {
	var out []string
	for n := range many {
		out = append(out, fmt.Sprintf("n%05d", n))
	}
	return out
}

// full has as many names as may be, each with itself as its key.
func full(t *testing.T) (*auth.Keys, map[string]string) {
	t.Helper()
	k, want := auth.New(), map[string]string{}
	for _, name := range numbered(api.MaxItems) {
		put(t, k, name, name, api.OK)
		want[name] = name
	}
	return k, want
}

// mixed is bytes of which each one hangs on its place.
func mixed(n int) string {
	out := make([]byte, n)
	x := uint32(54321)
	for i := range out {
		x = x*1664525 + 1013904223
		out[i] = byte(x >> 24)
	}
	return string(out)
}

func unhex(t *testing.T, s string) string {
	t.Helper()
	b, err := hex.DecodeString(s)
	if err != nil {
		t.Fatal(err)
	}
	return string(b)
}

// keysThatMayBe are of the lengths and bytes at the edges.
func keysThatMayBe() []string {
	r := strings.Repeat
	return []string{
		"k", "x", "\x00", "\xff", "k\x00", "\x00k", "kk", "\x00\x00", "\u00e9", " ", "KEY",
		mixed(2), mixed(31), mixed(32), mixed(33), mixed(62), mixed(63), mixed(64),
		r("k", 63), r("k", 64), r("\x00", 63), r("\x00", 64), r("\xff", 63), r("\xff", 64), r("k", 63) + "\x00", mixed(32) + r("\x00", 32),
	}
}

// The chapter's example.
func TestExample(t *testing.T) {
	k := auth.New()
	put(t, k, "ann", "k", api.OK)
	c := auth.Challenge(5, 0)
	checked(t, k, "ann", c, auth.Proof("k", "ann", c), api.OK)
	checked(t, k, "ann", c, auth.Proof("x", "ann", c), api.ErrAuth)
	checked(t, k, "bob", c, auth.Proof("k", "bob", c), api.ErrAuth)
	checked(t, k, "bob", c, auth.Proof("k", "ann", c), api.ErrAuth)
	take(t, k, "ann", api.OK)
	checked(t, k, "ann", c, auth.Proof("k", "ann", c), api.ErrAuth)
	checked(t, k, "ann", c, auth.Proof("x", "ann", c), api.ErrAuth)
	checked(t, k, "bob", c, auth.Proof("k", "bob", c), api.ErrAuth)
}
