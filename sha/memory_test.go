package sha_test

import (
	"runtime"
	"strings"
	"testing"
	"unsafe"

	"hopper/sha"
)

// R4: what is handed in is neither changed nor kept, and what is told is new; R7: what is told again is the same.

// loose answers a text that a test may change behind a call, and the bytes that it is made of.
func loose(b string) (string, []byte) {
	bytes := []byte(b + "spare room")
	return unsafe.String(&bytes[0], len(b)), bytes
}

func spoil(bytes []byte) {
	for i := range bytes {
		bytes[i] ^= 0x5a
	}
}

func TestWhatIsWrittenIsNotKept(t *testing.T) {
	for _, first := range nearEnds() {
		for _, second := range []int{1, 8, 63, 64, 65, 130} {
			all := mixed(first + second)
			h := sha.New()
			s, bytes := loose(all[:first])
			h.Write(s)
			spoil(bytes)
			asked(t, h, all[:first])
			s, bytes = loose(all[first:])
			h.Write(s)
			spoil(bytes)
			asked(t, h, all)
		}
	}
}

func TestWhatIsHandedInStays(t *testing.T) {
	for _, n := range lengths() {
		b := mixed(n)
		s, bytes := loose(b)
		before := string(bytes)
		h := sha.New()
		h.Write(s)
		h.Sum()
		sha.Sum(s)
		sha.Mac(s, s)
		sha.Equal(s, b)
		sha.Hex(s)
		sha.Unhex(s)
		if string(bytes) != before {
			t.Error(n, "bytes were changed")
		}
	}
}

// What was told stays, whatever is done with what was handed in.
func TestWhatIsToldIsNew(t *testing.T) {
	for _, n := range lengths() {
		b := mixed(n)
		s, bytes := loose(b)
		digits, digitBytes := loose(shown(b))
		sum, mac := sha.Sum(s), sha.Mac(s, s)
		hex, _ := sha.Hex(s)
		back, _ := sha.Unhex(digits)
		spoil(bytes)
		spoil(digitBytes)
		if sum != librarySum(b) || mac != libraryMac(b, b) || hex != shown(b) || back != b {
			t.Error(n, "what was told was changed")
		}
	}
}

// What was told stays, whatever is asked behind it.
func TestWhatIsToldStays(t *testing.T) {
	type answers struct{ sum, mac, hex, back string }
	ask := func(b string) answers {
		hex, _ := sha.Hex(b)
		back, _ := sha.Unhex(shown(b))
		return answers{sha.Sum(b), sha.Mac(b, b), hex, back}
	}
	told := map[int]answers{}
	for _, n := range lengths() {
		told[n] = ask(mixed(n))
		ask(strings.Repeat("z", n+1))
	}
	for n, got := range told {
		b := mixed(n)
		if got != (answers{librarySum(b), libraryMac(b, b), shown(b), b}) {
			t.Error(n, "what was told was changed")
		}
	}
}

// What was told of a hash stays while it goes on.
func TestWhatAHashToldStays(t *testing.T) {
	h := sha.New()
	var told []string
	for range 200 {
		told = append(told, h.Sum(), h.Sum())
		h.Write("a")
	}
	for i, got := range told {
		if got != librarySum(strings.Repeat("a", i/2)) {
			t.Errorf("%d: %x", i, got)
		}
	}
	places := map[*byte]int{}
	for _, got := range told {
		places[unsafe.StringData(got)]++
	}
	if len(places) != len(told) {
		t.Error(len(told), "texts lie in", len(places), "places")
	}
}

// A hash keeps no more, however much is written.
func TestAHashKeepsLittle(t *testing.T) {
	var hashes []*sha.Hash
	before := heap()
	for range 100 {
		h := sha.New()
		b := mixed(100003)
		h.Write(b)
		h.Write(again(b))
		h.Sum()
		hashes = append(hashes, h)
	}
	if after := heap(); after > before+100*2000 {
		t.Error(after-before, "bytes more")
	}
	runtime.KeepAlive(hashes)
}

func heap() uint64 {
	runtime.GC()
	runtime.GC()
	var m runtime.MemStats
	runtime.ReadMemStats(&m)
	return m.HeapAlloc
}
