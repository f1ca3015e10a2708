package auth_test

import (
	"fmt"
	"runtime"
	"slices"
	"strings"
	"testing"
	"unsafe"

	"hopper/api"
	"hopper/auth"
)

// R4: what is handed in is neither changed nor kept, and what is told is new; R7: what is told again is the same.

// loose answers a text that a test may change behind a call, and the bytes that it is made of.
func loose(b string) (string, []byte) {
	bytes := []byte(b + "spare room")
	return unsafe.String(&bytes[0], len(b)), bytes
}

func spoil(bytes []byte) {
	for i := range bytes {
		bytes[i] ^= 0x5a
	}
}

// spoilText changes the bytes of an answer itself.
func spoilText(s string) { spoil(unsafe.Slice(unsafe.StringData(s), len(s))) }

func TestWhatIsPutInIsNotKept(t *testing.T) {
	for _, key := range keysThatMayBe() {
		k := auth.New()
		for _, name := range []string{"ann", "b", strings.Repeat("z", 32)} {
			// Twice: also where the name is there.
			for range 2 {
				n, nameBytes := loose(name)
				s, keyBytes := loose(key)
				put(t, k, n, s, api.OK)
				spoil(nameBytes)
				spoil(keyBytes)
				checked(t, k, name, "c", libraryProof(key, name, "c"), api.OK)
			}
		}
		has(t, k, map[string]string{"ann": key, "b": key, strings.Repeat("z", 32): key})
		// What was asked is not kept, either.
		n, nameBytes := loose("b")
		take(t, k, n, api.OK)
		spoil(nameBytes)
		has(t, k, map[string]string{"ann": key, strings.Repeat("z", 32): key})
	}
}

func TestWhatIsHandedInStays(t *testing.T) {
	k := auth.New()
	for _, text := range []string{"ann", "A", "", strings.Repeat("a", 32), strings.Repeat("a", 33), mixed(64), mixed(65), libraryProof("ann", "ann", "ann")} {
		s, bytes := loose(text)
		before := string(bytes)
		k.Put(s, s)
		k.Put("ann", s)
		k.Put(s, "key")
		k.Check(s, s, s)
		k.Check("ann", s, libraryProof("key", "ann", text))
		auth.Proof(s, s, s)
		k.Names()
		k.Take(s)
		if string(bytes) != before {
			t.Errorf("%.40q was changed", text)
		}
	}
}

// The texts of a question may be changed behind it: nothing that was told hangs on them.
func TestWhatWasAskedMayChange(t *testing.T) {
	k := tableOf(t, "ann", "k")
	for _, c := range []string{"", "c", libraryChallenge(1, 2), mixed(300)} {
		s, bytes := loose(c)
		proof := auth.Proof("k", "ann", s)
		p, proofBytes := loose(proof)
		checked(t, k, "ann", s, p, api.OK)
		spoil(bytes)
		spoil(proofBytes)
		if proof != libraryProof("k", "ann", c) {
			t.Errorf("the proof of %.40q was changed", c)
		}
		checked(t, k, "ann", c, proof, api.OK)
	}
}

// What Names told may be changed, its texts and its spare room, too: neither the table nor another answer has anything of it.
func TestNamesThatWereToldMayBeChanged(t *testing.T) {
	for _, many := range []int{1, 2, 3, 5, 17, 100} {
		k, want := auth.New(), numbered(many)
		for _, name := range want {
			put(t, k, name, "k", api.OK)
		}
		first, second := k.Names(), k.Names()
		for _, name := range first {
			spoilText(name)
		}
		first = first[:cap(first)]
		for at := range first {
			first[at] = "spoilt"
		}
		if !slices.Equal(second, want) {
			t.Errorf("of %d names: another answer was changed: %.200q", many, second)
		}
		named(t, k, want...)
		for _, name := range want {
			checked(t, k, name, "c", libraryProof("k", name, "c"), api.OK)
			take(t, k, name, api.OK)
		}
		named(t, k)
	}
}

// What Names told stays, whatever becomes of the table.
func TestNamesThatWereToldStay(t *testing.T) {
	k := tableOf(t, "b", "k", "a", "k", "c", "k")
	told := k.Names()
	k.Take("b")
	k.Put("aa", "k")
	k.Put("a", "x")
	again := k.Names()
	k.Take("a")
	k.Names()
	if !slices.Equal(told, []string{"a", "b", "c"}) || !slices.Equal(again, []string{"a", "aa", "c"}) {
		t.Error(told, again)
	}
}

// Challenges and proofs that were told stay, and none lies where another one does.
func TestWhatIsToldIsNew(t *testing.T) {
	var told, want []string
	for n := range 50 {
		c := libraryChallenge(uint64(n/2), n/2)
		told = append(told, auth.Challenge(uint64(n/2), n/2), auth.Proof("k", "ann", c))
		want = append(want, c, libraryProof("k", "ann", c))
	}
	places := map[*byte]int{}
	for _, text := range told {
		places[unsafe.StringData(text)]++
	}
	if !slices.Equal(told, want) || len(places) != len(told) {
		t.Error(len(told), "texts lie in", len(places), "places")
	}
	// What is told next does not hang on what was told.
	for _, text := range told {
		spoilText(text)
	}
	challenged(t, 3, 3, libraryChallenge(3, 3))
	proved(t, "k", "ann", libraryChallenge(3, 3), libraryProof("k", "ann", libraryChallenge(3, 3)))
}

func heap() uint64 {
	runtime.GC()
	runtime.GC()
	var m runtime.MemStats
	runtime.ReadMemStats(&m)
	return m.HeapAlloc
}

// keepsLittle looks whether a table holds less than a number of bytes more behind what is done with it.
func keepsLittle(t *testing.T, most uint64, do func(k *auth.Keys)) {
	t.Helper()
	k := auth.New()
	before := heap()
	do(k)
	if after := heap(); after > before+most {
		t.Error(after-before, "bytes more")
	}
	runtime.KeepAlive(k)
}

// A table keeps no more than names and keys: not the long texts of which they are pieces, and nothing of what was refused, asked or taken.
func TestATableKeepsLittle(t *testing.T) {
	keepsLittle(t, 1<<17, func(k *auth.Keys) {
		for n := range 100 {
			long := fmt.Sprintf("n%05d", n) + strings.Repeat("k", 1<<16)
			put(t, k, long[:6], long[6:70], api.OK)
			long = strings.Clone(long)
			put(t, k, long[:6], "k", api.OK)
			long = strings.Clone(long)
			put(t, k, "ann", long[6:70], api.OK)
		}
	})
	keepsLittle(t, 1<<17, func(k *auth.Keys) {
		for n := range 20000 {
			name := fmt.Sprintf("n%05d", n)
			k.Put(name, name)
			k.Check(name, name, name)
			k.Put(name, "")
			k.Put(name, "x")
			k.Put("N"+name, "x")
			k.Names()
			k.Take(name)
			k.Take(name)
		}
	})
}
