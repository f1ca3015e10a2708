package sha_test

import (
	"crypto/sha256"
	"strings"
	"testing"

	"hopper/sha"
)

// 24.1: the digest of bytes.

func TestSumsThatAreKnown(t *testing.T) {
	for _, x := range [][2]string{
		{"abcdbcdecdefdefgefghfghighijhijkijkljklmklmnlmnomnopnopq", "248d6a61d20638b8e5c026930c3e6039a33ce45964ff2167f6ecedd419db06c1"},
		{"abcdefghbcdefghicdefghijdefghijkefghijklfghijklmghijklmnhijklmnoijklmnopjklmnopqklmnopqrlmnopqrsmnopqrstnopqrstu", "cf5b16a778af8380036ce59e7b0492370b249b11e8f07a51afac45037afee9d1"},
		{"\xbd", "68325720aabd7c82f30f554b313d0570c95accbb7dc4b5aae11204c08ffe732b"},
		{"\xc9\x8c\x8e\x55", "7abc22c0ae5af26ce93dbb94433a0e0b2e119d014f8e7f65bd56c61ccccd9504"},
		{strings.Repeat("a", 1000000), "cdc76e5c9914fb9281a1c7e284d73e67f1809a48a497200e046d39ccc7112cd0"},
	} {
		summed(t, x[0], x[1])
	}
}

// Bytes 0 alone, and bytes 255 alone: of the padded message the byte 128 and the length say how many there are.
func TestSumOfOneByteAlone(t *testing.T) {
	for n, want := range map[int][2]string{
		1:       {"6e340b9cffb37a989ca544e6bb780a2c78901d3fb33738768511a30617afa01d", "a8100ae6aa1940d0b663bb31cd466142ebbdbd5187131b92d93818987832eb89"},
		55:      {"02779466cdec163811d078815c633f21901413081449002f24aa3e80f0b88ef7", "aadaed00a3c5fbb8072ae7f1984ba8199fbe5272de427d11eaf31583af37db51"},
		56:      {"d4817aa5497628e7c77e6b606107042bbba3130888c5f47a375e6179be789fbb", "528ff50ab05e77bbbd224a9ec86165dbb6824a9a9efb544be0a1d57d5b416457"},
		63:      {"c7723fa1e0127975e49e62e753db53924c1bd84b8ac1ac08df78d09270f3d971", "d12449c8124182545ae91924286cc6af13528bcf62a5ddbd5e00b891fffc1b48"},
		64:      {"f5a5fd42d16a20302798ef6ed309979b43003d2320d9f0e8ea9831a92759fb4b", "8667e718294e9e0df1d30600ba3eeb201f764aad2dad72748643e4a285e1d1f7"},
		65:      {"98ce42deef51d40269d542f5314bef2c7468d401ad5d85168bfab4c0108f75f7", "855c9a28fff2bbbd71327165554a00c6fdd44d5d58c1f12b8fdff29b5d67f001"},
		119:     {"f616b0d54e78571a9611f343c9f8e022e859e920381ab0e4d3da01e193a7bd7e", "b863f94597d433ef2280e3b4656f13ea265a79bb8047287321c218905b03c99b"},
		120:     {"6edd9f6f9cc92cded36e6c4a580933f9c9f1b90562b46903b806f21902a1a54f", "9088fee917e5a748c2f0b4f5458c1cbdabbd696291c69be6e605bae0ef779e8f"},
		127:     {"15dae5979058bfbf4f9166029b6e340ea3ca374fef578a11dc9e6e923860d7ae", "67341bf96ebc543506d0ef5c98288263306e5454b082aba87e881d54c007fba7"},
		128:     {"38723a2e5e8a17aa7950dc008209944e898f69a7bd10a23c839d341e935fd5ca", "e9175db65a9789096ca9cb5524d3abc2107df03e3c9ba3af1aca628f9c5d3bd2"},
		1000:    {"541b3e9daa09b20bf85fa273e5cbd3e80185aa4ec298e765db87742b70138a53", "b4f73dff046400b76728ab32619e3d89e00132653725f660c62ab9fca975b372"},
		1000000: {"d29751f2649b32ff572b5e0a9f541ea660a50f94ff0beedfb0b692b924cc8025", "bfa872a3021d48c84643f831ee5f9358bceccf3ad6a5f8b3a7a00e0b3f22bdbc"},
	} {
		summed(t, strings.Repeat("\x00", n), want[0])
		summed(t, strings.Repeat("\xff", n), want[1])
	}
}

func TestSumOfEachLength(t *testing.T) {
	all := mixed(300)
	for n := range len(all) {
		summed(t, all[:n], shown(librarySum(all[:n])))
	}
	for _, n := range lengths() {
		for _, b := range []string{mixed(n), strings.Repeat("\x00", n), strings.Repeat("\xff", n), strings.Repeat("\x80", n)} {
			summed(t, b, shown(librarySum(b)))
		}
	}
}

// The chapter's words, without the library: the constants are roots of primes.
func TestSumByTheWords(t *testing.T) {
	for _, n := range lengths() {
		if n <= 300 {
			b := mixed(n)
			summed(t, b, shown(modelSum(b)))
		}
	}
}

// Each bit of a block counts, wherever it stands.
func TestSumOfEachBit(t *testing.T) {
	seen := map[string]int{}
	for at := range 130 * 8 {
		b := make([]byte, 130)
		b[at/8] = 1 << (at % 8)
		summed(t, string(b), shown(librarySum(string(b))))
		seen[sha.Sum(string(b))]++
	}
	if len(seen) != 130*8 {
		t.Error(len(seen), "digests")
	}
}

func TestADigestHas32Bytes(t *testing.T) {
	for _, n := range lengths() {
		b := mixed(n)
		h := sha.New()
		h.Write(b)
		if len(sha.Sum(b)) != 32 || len(h.Sum()) != 32 || len(sha.Mac(b, b)) != 32 {
			t.Error(n, len(sha.Sum(b)), len(h.Sum()), len(sha.Mac(b, b)))
		}
	}
}

// So many bytes that eight times their number is more than 32 bits hold.
func TestSumOfVeryMany(t *testing.T) {
	piece := mixed(1 << 20)
	h, want := sha.New(), sha256.New()
	for n := range 1<<9 + 1 {
		if n == 1<<9 {
			// Just 2^32 bits.
			if got := h.Sum(); got != string(want.Sum(nil)) {
				t.Errorf("%x", got)
			}
		}
		h.Write(piece)
		want.Write([]byte(piece))
	}
	if got := h.Sum(); got != string(want.Sum(nil)) {
		t.Errorf("%x", got)
	}
}
