package frame_test

import (
	"bytes"
	"math/big"
	"math/rand"
	"slices"
	"strings"
	"testing"

	"hopper/api"
	"hopper/frame"
)

// The model is the chapter's words, written out as plainly as may be: a sum as the rest of a division of polynomials, that are numbers without an end.

// modelSum puts the bits in a row, each byte's lowest first, turns the first 32 about, has 32 zeros behind, and divides.
func modelSum(b string) uint32 {
	n := new(big.Int)
	for i := range 8 * len(b) {
		n.Lsh(n, 1)
		n.Or(n, big.NewInt(int64(b[i/8]>>(i%8)&1)))
	}
	n.Lsh(n, 32)
	ones := new(big.Int).Lsh(big.NewInt(1<<32-1), uint(8*len(b)))
	n.Xor(n, ones)
	divisor := big.NewInt(1<<32 | 0x04C11DB7)
	for n.BitLen() > 32 {
		n.Xor(n, new(big.Int).Lsh(divisor, uint(n.BitLen()-33)))
	}
	rest := n.Uint64()
	sum := uint32(0)
	for i := range 32 {
		sum |= uint32(rest>>i&1^1) << (31 - i)
	}
	return sum
}

func modelFrame(b string) (string, api.Errno) {
	if len(b) > 65536 {
		return "", api.ErrLong
	}
	s := word(uint32(len(b))) + b
	return s + word(modelSum(s)), api.OK
}

// modelUnframe takes a body to be there if the frame of it stands there.
func modelUnframe(b string, at int) (string, int, api.Fault) {
	if at < 0 || at > len(b) {
		return "", 0, fault(0, api.ErrRange)
	}
	rest := b[at:]
	if len(rest) < 4 {
		return "", 0, fault(at, api.ErrEnd)
	}
	length := []byte(rest[:4])
	slices.Reverse(length)
	n := new(big.Int).SetBytes(length).Int64()
	if n > 65536 {
		return "", 0, fault(at, api.ErrLong)
	}
	if int64(len(rest)) < 4+n+4 {
		return "", 0, fault(at, api.ErrEnd)
	}
	body := rest[4 : 4+n]
	whole, _ := modelFrame(body)
	if !strings.HasPrefix(rest, whole) {
		return "", 0, fault(at, api.ErrSum)
	}
	return body, at + len(whole), fault(0, api.OK)
}

func modelFrames(b string) ([]string, int) {
	body, end, f := modelUnframe(b, 0)
	if f.Code != api.OK {
		return nil, 0
	}
	more, behind := modelFrames(b[end:])
	return append([]string{body}, more...), end + behind
}

func drawBytes(r *rand.Rand, n int) string {
	b := make([]byte, r.Intn(n+1))
	r.Read(b)
	if r.Intn(4) == 0 {
		b = bytes.Repeat([]byte{byte(r.Intn(256))}, len(b))
	}
	return string(b)
}

// drawBroken answers frames one behind the other, of which some are torn, or have other bytes.
func drawBroken(r *rand.Rand) string {
	var out strings.Builder
	for range r.Intn(5) {
		s := []byte(framed(drawBytes(r, 12)))
		switch r.Intn(10) {
		case 0:
			s = s[:r.Intn(len(s))]
		case 1:
			s[r.Intn(len(s))] = byte(r.Intn(256))
		case 2:
			s[r.Intn(4)] ^= 1 << r.Intn(8)
		case 3:
			s = append(s, drawBytes(r, 3)...)
		}
		out.Write(s)
	}
	return out.String()
}

func TestSumHeldAgainstModel(t *testing.T) {
	r := rand.New(rand.NewSource(61))
	for range 2000 {
		b := drawBytes(r, 40)
		sum(t, b, modelSum(b))
	}
	b := drawBytes(r, 3000)
	sum(t, b, modelSum(b))
}

func TestFrameHeldAgainstModel(t *testing.T) {
	r := rand.New(rand.NewSource(62))
	for range 1000 {
		b := drawBytes(r, 60)
		want, e := modelFrame(b)
		if got, code := frame.Frame(b); got != want || code != e {
			t.Fatalf("frame of %x: %x %d, not %x %d", b, got, code, want, e)
		}
	}
}

func TestUnframeHeldAgainstModel(t *testing.T) {
	r := rand.New(rand.NewSource(63))
	told := map[api.Errno]int{}
	for range 3000 {
		b := drawBroken(r)
		for at := -2; at < len(b)+3; at += 1 + r.Intn(3) {
			body, end, f := modelUnframe(b, at)
			told[f.Code]++
			if f.Code == api.OK {
				found(t, b, at, body, end)
			} else {
				faulty(t, b, at, f)
			}
		}
	}
	for _, e := range []api.Errno{api.OK, api.ErrRange, api.ErrEnd, api.ErrLong, api.ErrSum} {
		if told[e] == 0 {
			t.Errorf("%d was never told: draw others", e)
		}
	}
}

func TestFramesHeldAgainstModel(t *testing.T) {
	r := rand.New(rand.NewSource(64))
	for range 4000 {
		b := drawBroken(r)
		want, end := modelFrames(b)
		list(t, b, want, end)
	}
}

// 6.3, on drawn frames: found with anything ahead and behind, not if torn, not if a byte behind the length is another one.
func TestDrawnFramesAreFoundOrNot(t *testing.T) {
	r := rand.New(rand.NewSource(65))
	for range 3000 {
		b, ahead, behind := drawBytes(r, 50), drawBytes(r, 20), drawBytes(r, 20)
		good, e := frame.Frame(b)
		if e != api.OK {
			t.Fatal(e)
		}
		found(t, ahead+good+behind, len(ahead), b, len(ahead)+len(good))
		faulty(t, ahead+good[:r.Intn(len(good))], len(ahead), fault(len(ahead), api.ErrEnd))
		bad := []byte(good)
		bad[4+r.Intn(len(bad)-4)] ^= byte(1 + r.Intn(255))
		faulty(t, ahead+string(bad)+behind, len(ahead), fault(len(ahead), api.ErrSum))
	}
}

// P1: every call ends and none panics, at whatever bytes and places.
func TestNeverPanics(t *testing.T) {
	r := rand.New(rand.NewSource(66))
	for range 20000 {
		b := drawBytes(r, 40)
		if r.Intn(2) == 0 && len(b) > 3 {
			b = word(uint32(r.Intn(40))) + b[4:]
		}
		frame.Sum(b)
		frame.Frame(b)
		frame.Unframe(b, int(r.Uint64()))
		frame.Unframe(b, r.Intn(50)-5)
		frame.Frames(b)
	}
}
