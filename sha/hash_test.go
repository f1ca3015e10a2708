package sha_test

import (
	"slices"
	"testing"

	"hopper/sha"
)

// 24.1, 24.3: a hash, and the pieces in which bytes are written.

func TestAskedBeforeAnything(t *testing.T) {
	h := sha.New()
	asked(t, h, "")
	h.Write("abc")
	asked(t, h, "abc")
}

func TestAskedBetweenWrites(t *testing.T) {
	all := mixed(300)
	for _, size := range []int{1, 7, 55, 56, 63, 64, 65, 128} {
		h := sha.New()
		at := 0
		for ; at+size <= len(all); at += size {
			asked(t, h, all[:at])
			h.Write(all[at : at+size])
		}
		asked(t, h, all[:at])
	}
}

// What is asked changes nothing: a hash that was asked at a length and one that was not go on alike.
func TestAskedAtEachLength(t *testing.T) {
	all := mixed(200)
	for n := range len(all) {
		h := sha.New()
		h.Write(all[:n])
		h.Sum()
		h.Write(all[n:])
		asked(t, h, all)
	}
}

func TestWriteOfNothing(t *testing.T) {
	h := sha.New()
	h.Write("")
	asked(t, h, "")
	for _, n := range lengths() {
		b := mixed(n)
		h := sha.New()
		h.Write("")
		h.Write(b)
		h.Write("")
		h.Write("")
		asked(t, h, b)
		h.Write("")
		h.Write("more")
		asked(t, h, b+"more")
	}
}

func TestOnePiece(t *testing.T) {
	for _, n := range lengths() {
		b := mixed(n)
		h := sha.New()
		h.Write(b)
		asked(t, h, b)
	}
}

func TestByteByByte(t *testing.T) {
	for _, n := range lengths() {
		b := mixed(n)
		h := sha.New()
		for at := range len(b) {
			h.Write(b[at : at+1])
		}
		asked(t, h, b)
	}
}

// inPieces writes b in pieces that end at some places, and answers the hash.
func inPieces(b string, ends ...int) *sha.Hash {
	h := sha.New()
	begin := 0
	for _, end := range append(slices.Clone(ends), len(b)) {
		h.Write(b[begin:end])
		begin = end
	}
	return h
}

// nearEnds are the places at, just ahead of and just behind the ends of blocks, and those where the padding needs a block more.
func nearEnds() []int {
	return []int{0, 1, 54, 55, 56, 57, 62, 63, 64, 65, 66, 119, 120, 121, 126, 127, 128, 129, 130, 191, 192, 193}
}

func TestTwoPieces(t *testing.T) {
	for _, n := range []int{0, 1, 55, 56, 63, 64, 65, 119, 120, 127, 128, 129, 192, 193, 300} {
		b := mixed(n)
		for end := range n + 1 {
			asked(t, inPieces(b, end), b)
		}
	}
}

func TestThreePieces(t *testing.T) {
	b := mixed(256)
	for _, first := range nearEnds() {
		for _, second := range nearEnds() {
			if first <= second {
				asked(t, inPieces(b, first, second), b)
				asked(t, inPieces(b[:193], first, second), b[:193])
			}
		}
	}
}

func TestPiecesOfOneSize(t *testing.T) {
	b := mixed(5000)
	for size := 1; size < 200; size++ {
		var ends []int
		for end := size; end < len(b); end += size {
			ends = append(ends, end)
		}
		asked(t, inPieces(b, ends...), b)
	}
}

func TestPiecesOfManyBytes(t *testing.T) {
	b := mixed(1<<20 + 37)
	asked(t, inPieces(b, 1, 1<<19, 1<<19+63), b)
	asked(t, inPieces(b, 64, 1<<20), b)
}

// Two hashes by turns: neither hangs on the other.
func TestTwoByTurns(t *testing.T) {
	first, second := sha.New(), sha.New()
	a, b := mixed(400), mixed(800)[400:]
	for at := 0; at < 400; at += 25 {
		first.Write(a[at : at+25])
		asked(t, second, b[:at])
		second.Write(b[at : at+25])
		asked(t, first, a[:at+25])
		asked(t, sha.New(), "")
		summed(t, "abc", shown(librarySum("abc")))
	}
	asked(t, first, a)
	asked(t, second, b)
}

// A hash that went on tells nothing of one that stands where it stood.
func TestAlikeGoApart(t *testing.T) {
	for _, n := range nearEnds() {
		b := mixed(n)
		one, two := inPieces(b), inPieces(b)
		one.Write("x")
		asked(t, two, b)
		two.Write("y")
		asked(t, one, b+"x")
		asked(t, two, b+"y")
	}
}
