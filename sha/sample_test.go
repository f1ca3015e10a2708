package sha_test

import (
	"strings"
	"testing"

	"hopper/api"
	"hopper/sha"
)

// The checks: each call tells what is wanted, and tells it again. Digests are held against their hexadecimal digits by the tests' own means, so that they do not hang on Hex.

const ownDigits = "0123456789abcdef"

// shown is b in digits.
func shown(b string) string {
	var out strings.Builder
	for _, c := range []byte(b) {
		out.WriteByte(ownDigits[c/16])
		out.WriteByte(ownDigits[c%16])
	}
	return out.String()
}

func summed(t *testing.T, b, want string) {
	t.Helper()
	for range 2 {
		if got := shown(sha.Sum(b)); got != want {
			t.Errorf("Sum of %d bytes %.40q: %s, not %s", len(b), b, got, want)
		}
	}
}

// asked looks at what a hash of the bytes b answers.
func asked(t *testing.T, h *sha.Hash, b string) {
	t.Helper()
	want := librarySum(b)
	for range 2 {
		if got := h.Sum(); got != want {
			t.Errorf("the hash of %d bytes %.40q: %x, not %x", len(b), b, got, want)
		}
	}
}

func macked(t *testing.T, key, b, want string) {
	t.Helper()
	for range 2 {
		if got := shown(sha.Mac(key, b)); got != want {
			t.Errorf("Mac of a key of %d bytes %.40q and of %d bytes %.40q: %s, not %s", len(key), key, len(b), b, got, want)
		}
	}
}

// equal looks both ways round.
func equal(t *testing.T, a, b string, want bool) {
	t.Helper()
	for range 2 {
		if sha.Equal(a, b) != want || sha.Equal(b, a) != want {
			t.Errorf("Equal of %d bytes %.40q and %d bytes %.40q: %v, %v", len(a), a, len(b), b, sha.Equal(a, b), sha.Equal(b, a))
		}
	}
}

func written(t *testing.T, b, want string, wantE api.Errno) {
	t.Helper()
	for range 2 {
		if s, e := sha.Hex(b); s != want || e != wantE {
			t.Errorf("Hex of %d bytes %.40q: %d bytes %.80q %d, not %d bytes %.80q %d", len(b), b, len(s), s, e, len(want), want, wantE)
		}
	}
}

func taken(t *testing.T, s, want string, wantE api.Errno) {
	t.Helper()
	for range 2 {
		if b, e := sha.Unhex(s); b != want || e != wantE {
			t.Errorf("Unhex of %d bytes %.80q: %d bytes %.40q %d, not %d bytes %.40q %d", len(s), s, len(b), b, e, len(want), want, wantE)
		}
	}
}

// lengths are those at which a block, or what stands behind the bytes, begins or ends, and many.
func lengths() []int {
	return []int{0, 1, 2, 3, 31, 32, 33, 54, 55, 56, 57, 62, 63, 64, 65, 66, 118, 119, 120, 121, 126, 127, 128, 129, 183, 184, 191, 192, 193, 255, 256, 257, 1000, 4096, 65535, 65536, 100003}
}

// mixed is bytes of which each one hangs on its place, so that those that stand elsewhere would be others.
func mixed(n int) string {
	out := make([]byte, n)
	x := uint32(12345)
	for i := range out {
		x = x*1664525 + 1013904223
		out[i] = byte(x >> 24)
	}
	return string(out)
}

// allBytes has each of the 256.
func allBytes() string {
	out := make([]byte, 256)
	for i := range out {
		out[i] = byte(i)
	}
	return string(out)
}

// The chapter's examples, and that of the whole document.
func TestExamples(t *testing.T) {
	const (
		ofNothing = "e3b0c44298fc1c149afbf4c8996fb92427ae41e4649b934ca495991b7852b855"
		ofAbc     = "ba7816bf8f01cfea414140de5dae2223b00361a396177a9cb410ff61f20015ad"
		ofJefe    = "5bdcc146bf60754e6a042426089575c75a003f089d2739839dec58b964ec3843"
	)
	written(t, sha.Sum(""), ofNothing, api.OK)
	written(t, sha.Sum("abc"), ofAbc, api.OK)
	written(t, sha.Mac("Jefe", "what do ya want for nothing?"), ofJefe, api.OK)
	taken(t, ofNothing, sha.Sum(""), api.OK)
	summed(t, "", ofNothing)
	summed(t, "abc", ofAbc)
	macked(t, "Jefe", "what do ya want for nothing?", ofJefe)
}
