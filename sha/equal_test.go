package sha_test

import (
	"strings"
	"testing"

	"hopper/sha"
)

// 24.2: whether they are the same bytes.

// again is the same bytes elsewhere in memory.
func again(b string) string { return string([]byte(b)) }

func TestEqualOfTheSame(t *testing.T) {
	for _, n := range lengths() {
		for _, b := range []string{mixed(n), strings.Repeat("\x00", n), strings.Repeat("\xff", n)} {
			equal(t, b, b, true)
			equal(t, b, again(b), true)
		}
	}
	equal(t, allBytes(), again(allBytes()), true)
	equal(t, sha.Sum("a"), sha.Sum("a"), true)
}

// One byte is another one, by one bit or more, wherever it stands.
func TestEqualOfOneByteAnother(t *testing.T) {
	for _, n := range []int{1, 2, 3, 8, 9, 31, 32, 33, 63, 64, 65, 300} {
		b := mixed(n)
		for at := range n {
			for _, change := range []byte{1, 2, 4, 8, 16, 32, 64, 128, 255, 3, 129} {
				other := []byte(b)
				other[at] ^= change
				equal(t, b, string(other), false)
			}
		}
	}
	long := mixed(1 << 20)
	for _, at := range []int{0, 1, 255, 256, 65535, 65536, 1<<20 - 2, 1<<20 - 1} {
		other := []byte(long)
		other[at]++
		equal(t, long, string(other), false)
	}
}

// Two bytes are others, so that what is apart might come to nothing, put together.
func TestEqualOfTwoBytesAnother(t *testing.T) {
	b := mixed(40)
	for first := range len(b) {
		for second := range len(b) {
			for _, change := range []byte{1, 128, 255} {
				if first != second {
					other := []byte(b)
					other[first] ^= change
					other[second] ^= change
					equal(t, b, string(other), false)
				}
			}
		}
	}
	equal(t, "ab", "ba", false)
	equal(t, "\x01\xff", "\x02\xfe", false)
}

func TestEqualOfATextAndItsBeginning(t *testing.T) {
	for _, n := range []int{1, 2, 3, 32, 33, 64, 65, 256, 257, 300} {
		for _, b := range []string{mixed(n), strings.Repeat("\x00", n), strings.Repeat("a", n)} {
			for end := range n {
				equal(t, b, b[:end], false)
			}
			equal(t, b, b[1:], false)
		}
	}
	// Lengths that are the same but for what a byte, or two, hold of them.
	zeros := strings.Repeat("\x00", 1<<16+7)
	equal(t, zeros[:7], zeros[:256+7], false)
	equal(t, zeros[:7], zeros, false)
}

func TestEqualOfNothing(t *testing.T) {
	equal(t, "", "", true)
	equal(t, "", again(""), true)
	equal(t, "", mixed(9)[9:], true)
	for _, b := range []string{"\x00", "a", "\xff", "\x00\x00", strings.Repeat("\x00", 256), mixed(300)} {
		equal(t, "", b, false)
	}
}

// Bytes are compared, not what they may stand for.
func TestEqualOfOtherSpellings(t *testing.T) {
	equal(t, "a", "A", false)
	equal(t, "\xff", "\xfe", false)
	equal(t, "\xff", "\uFFFD", false)
	equal(t, "\u00e9", "e\u0301", false)
	equal(t, "a", "a ", false)
	equal(t, "a", "a\x00", false)
}
