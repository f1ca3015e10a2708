package sha_test

import (
	"crypto/hmac"
	"crypto/sha256"
	"math/big"
	"math/rand"
	"slices"
	"strings"
	"testing"

	"hopper/api"
	"hopper/sha"
)

// What is held against the package: Go's own library, and a model that is the chapter's words, written out as plainly as may be.

func librarySum(b string) string {
	d := sha256.Sum256([]byte(b))
	return string(d[:])
}

func libraryMac(key, b string) string {
	h := hmac.New(sha256.New, []byte(key))
	h.Write([]byte(b))
	return string(h.Sum(nil))
}

// bitsBehindThePoint are the first 32 of the root (2: square, 3: cube) of n: the greatest whole number whose power is not above n, shifted as often.
func bitsBehindThePoint(n int64, root int) uint32 {
	goal := new(big.Int).Lsh(big.NewInt(n), uint(32*root))
	power := big.NewInt(int64(root))
	low, high := big.NewInt(0), new(big.Int).Lsh(big.NewInt(n), 32)
	for low.Cmp(high) < 0 {
		middle := new(big.Int).Add(low, high)
		middle.Add(middle, big.NewInt(1)).Rsh(middle, 1)
		if new(big.Int).Exp(middle, power, nil).Cmp(goal) <= 0 {
			low = middle
		} else {
			high = new(big.Int).Sub(middle, big.NewInt(1))
		}
	}
	return uint32(low.Uint64())
}

// rootsOfPrimes are the bits of the first so many primes.
func rootsOfPrimes(many, root int) []uint32 {
	var out []uint32
	for n := int64(2); len(out) < many; n++ {
		if big.NewInt(n).ProbablyPrime(0) {
			out = append(out, bitsBehindThePoint(n, root))
		}
	}
	return out
}

// bit is one of the 32, the lowest is 0.
func bit(x uint32, at int) uint32 { return x >> at % 2 }

// each makes a word of what a function says of each bit.
func each(say func(at int) uint32) uint32 {
	out := uint32(0)
	for at := range 32 {
		out |= say(at) << at
	}
	return out
}

func turnedRight(x uint32, by int) uint32 {
	return each(func(at int) uint32 { return bit(x, (at+by)%32) })
}

func modelPadded(b string) []byte {
	out := append([]byte(b), 128)
	for (len(out)+8)%64 != 0 {
		out = append(out, 0)
	}
	eightTimes := new(big.Int).Mul(big.NewInt(int64(len(b))), big.NewInt(8))
	return append(out, eightTimes.FillBytes(make([]byte, 8))...)
}

func modelWords(block []byte) []uint32 {
	var w []uint32
	for at := 0; at < 64; at += 4 {
		w = append(w, uint32(new(big.Int).SetBytes(block[at:at+4]).Uint64()))
	}
	for t := 16; t < 64; t++ {
		far, near := w[t-15], w[t-2]
		s0 := turnedRight(far, 7) ^ turnedRight(far, 18) ^ far>>3
		s1 := turnedRight(near, 17) ^ turnedRight(near, 19) ^ near>>10
		w = append(w, s1+w[t-7]+s0+w[t-16])
	}
	return w
}

func modelRounds(state, constants, w []uint32) {
	s := slices.Clone(state)
	for t := range 64 {
		a, b, c, d, e, f, g, h := s[0], s[1], s[2], s[3], s[4], s[5], s[6], s[7]
		ch := each(func(at int) uint32 {
			if bit(e, at) == 1 {
				return bit(f, at)
			}
			return bit(g, at)
		})
		maj := each(func(at int) uint32 { return (bit(a, at) + bit(b, at) + bit(c, at)) / 2 })
		x := h + (turnedRight(e, 6) ^ turnedRight(e, 11) ^ turnedRight(e, 25)) + ch + constants[t] + w[t]
		y := (turnedRight(a, 2) ^ turnedRight(a, 13) ^ turnedRight(a, 22)) + maj
		s = []uint32{x + y, a, b, c, d + x, e, f, g}
	}
	for i := range s {
		state[i] += s[i]
	}
}

func modelSum(b string) string {
	state, constants := rootsOfPrimes(8, 2), rootsOfPrimes(64, 3)
	padded := modelPadded(b)
	for at := 0; at < len(padded); at += 64 {
		modelRounds(state, constants, modelWords(padded[at:at+64]))
	}
	var out []byte
	for _, word := range state {
		out = append(out, big.NewInt(int64(word)).FillBytes(make([]byte, 4))...)
	}
	return string(out)
}

func modelMac(key, b string) string {
	if len(key) > 64 {
		key = modelSum(key)
	}
	key += strings.Repeat("\x00", 64-len(key))
	with := func(pad byte) string {
		var out []byte
		for _, c := range []byte(key) {
			out = append(out, c^pad)
		}
		return string(out)
	}
	return modelSum(with(92) + modelSum(with(54)+b))
}

func modelHex(b string) (string, api.Errno) {
	if len(b) > api.MaxBytes {
		return "", api.ErrLong
	}
	return shown(b), api.OK
}

// modelUnhex looks for bytes whose Hex s is, two digits at a time.
func modelUnhex(s string) (string, api.Errno) {
	var out []byte
	for at := 0; at < len(s); at += 2 {
		found := slices.IndexFunc([]byte(allBytes()), func(c byte) bool { return shown(string([]byte{c})) == s[at:min(at+2, len(s))] })
		if found < 0 {
			return "", api.ErrForm
		}
		out = append(out, byte(found))
	}
	if len(out) > api.MaxBytes {
		return "", api.ErrForm
	}
	return string(out), api.OK
}

// Drawn inputs.

// drawBytes answers bytes, of lengths near the ends of blocks for the most part.
func drawBytes(r *rand.Rand) string {
	n := 64*r.Intn(4) + r.Intn(5) - 2
	switch r.Intn(4) {
	case 0:
		n = r.Intn(300)
	case 1:
		n -= 8
	}
	out := make([]byte, max(n, 0))
	for i := range out {
		switch r.Intn(8) {
		case 0:
			out[i] = 0
		case 1:
			out[i] = 255
		default:
			out[i] = byte(r.Intn(256))
		}
	}
	return string(out)
}

func TestDrawnSums(t *testing.T) {
	r := rand.New(rand.NewSource(24))
	for n := range 300 {
		b := drawBytes(r)
		if n < 40 {
			summed(t, b, shown(modelSum(b)))
		}
		summed(t, b, shown(librarySum(b)))
	}
}

func TestDrawnMacs(t *testing.T) {
	r := rand.New(rand.NewSource(25))
	for n := range 300 {
		key, b := drawBytes(r), drawBytes(r)
		if n < 20 {
			macked(t, key, b, shown(modelMac(key, b)))
		}
		macked(t, key, b, shown(libraryMac(key, b)))
	}
}

// Some hashes that live at once: drawn bytes go to one or other of them, and any of them is asked at any time.
func TestDrawnWrites(t *testing.T) {
	r := rand.New(rand.NewSource(26))
	for range 40 {
		hashes := make([]*sha.Hash, 1+r.Intn(4))
		bytes := make([]string, len(hashes))
		for i := range hashes {
			hashes[i] = sha.New()
		}
		for range 60 {
			i := r.Intn(len(hashes))
			if r.Intn(3) == 0 {
				asked(t, hashes[i], bytes[i])
				continue
			}
			b := drawBytes(r)
			hashes[i].Write(b)
			bytes[i] += b
		}
		for i := range hashes {
			asked(t, hashes[i], bytes[i])
		}
	}
}

// drawDigits answers what Hex may write, for the most part with a few places changed.
func drawDigits(r *rand.Rand) string {
	const signs = "0123456789abcdefABCDEFG/:@`g \x00\xff"
	s := []byte(shown(drawBytes(r)))
	if len(s) > 40 {
		s = s[:r.Intn(41)]
	}
	for range r.Intn(3) {
		if len(s) > 0 {
			s[r.Intn(len(s))] = signs[r.Intn(len(signs))]
		}
	}
	return string(s)
}

func TestDrawnDigits(t *testing.T) {
	r := rand.New(rand.NewSource(27))
	told := map[api.Errno]int{}
	for range 3000 {
		s := drawDigits(r)
		b, e := modelUnhex(s)
		taken(t, s, b, e)
		told[e]++
		s, e = modelHex(b)
		written(t, b, s, e)
	}
	if told[api.OK] < 300 || told[api.ErrForm] < 300 {
		t.Error(told)
	}
}
