package sha_test

import (
	"strings"
	"testing"

	"hopper/sha"
)

// 24.1, 24.3: the HMAC of a key and bytes.

func TestMacsThatAreKnown(t *testing.T) {
	repeat := strings.Repeat
	for _, x := range [][3]string{
		{repeat("\x0b", 20), "Hi There", "b0344c61d8db38535ca8afceaf0bf12b881dc200c9833da726e9376c2e32cff7"},
		{repeat("\xaa", 20), repeat("\xdd", 50), "773ea91e36800e46854db8ebd09181a72959098b3ef8c122d9635514ced565fe"},
		{allBytes()[1:26], repeat("\xcd", 50), "82558a389a443c0ea4cc819899f2083a85f0faa3e578f8077a2e3ff46729665b"},
		{repeat("\x0c", 20), "Test With Truncation", "a3b6167473100ee06e0c796c2955552bfa6f7c0a6a8aef8b93f860aab0cd20c5"},
		{repeat("\xaa", 131), "Test Using Larger Than Block-Size Key - Hash Key First", "60e431591ee0b67f0d8a26aacbf5b77f8e0bc6213728c5140546040f0ee37f54"},
		{repeat("\xaa", 131), "This is a test using a larger than block-size key and a larger than block-size data. The key needs to be hashed before being used by the HMAC algorithm.", "9b09ffa71b942fcb27635fbcd5b0e944bfdc63644f0713938a7f51535c3a35e2"},
		{"", "", "b613679a0814d9ec772f95d778c35fc5ff1697c493715653c6c712144292c5ad"},
		{"", "abc", "fd7adb152c05ef80dccf50a1fa4c05d5a3ec6da95575fc312ae7c5d091836351"},
		{repeat("k", 63), "", "a73e4ae46b2a9f2402fff056e156c0a25551e3db5097f9367522239bfbc2d02e"},
		{repeat("k", 64), "", "83026a325aaee70e36cfe607536aa1054104ad1077c36134810d4ccded1ccd3b"},
		{repeat("k", 65), "", "41f1c4cc3107cd5b8d92460f61032902bfdb06484eef17e861b83a5012d3b7f3"},
		{repeat("\x00", 64), "x", "4cbc96099a6467ce002461f10549b4898265ebe6188b45efacc44293516e62c4"},
		{repeat("\xff", 64), "x", "ff41ea8682b6938ebd4a791365b677a5d173a6a77222f32d0a676f6df50e3faa"},
	} {
		macked(t, x[0], x[1], x[2])
	}
}

func TestMacOfEachKeyLength(t *testing.T) {
	all := mixed(200)
	for n := range len(all) {
		for _, b := range []string{"", "b", all[:55], all[:64], all} {
			macked(t, all[:n], b, shown(libraryMac(all[:n], b)))
		}
	}
}

func TestMacOfManyBytes(t *testing.T) {
	for _, n := range lengths() {
		for _, key := range []string{"", "k", mixed(63), mixed(64), mixed(65), mixed(n)} {
			macked(t, key, mixed(n), shown(libraryMac(key, mixed(n))))
		}
	}
	macked(t, mixed(1<<20), mixed(1<<20+5), shown(libraryMac(mixed(1<<20), mixed(1<<20+5))))
}

func TestMacByTheWords(t *testing.T) {
	for _, n := range []int{0, 1, 32, 63, 64, 65, 130} {
		for _, b := range []string{"", "b", mixed(70)} {
			key := mixed(n)
			macked(t, key, b, shown(modelMac(key, b)))
		}
	}
}

// sameMacs holds the Macs of two keys against each other, of some bytes.
func sameMacs(t *testing.T, one, other string, want bool) {
	t.Helper()
	for _, b := range []string{"", "b", mixed(64), mixed(300)} {
		if (sha.Mac(one, b) == sha.Mac(other, b)) != want {
			t.Errorf("the Macs of %d bytes, of keys of %d bytes %.40q and %d bytes %.40q: the same is %v", len(b), len(one), one, len(other), other, !want)
		}
	}
}

// 24.3: bytes 0 behind a key change nothing, up to 64 bytes, and nowhere else.
func TestBytes0BehindAKey(t *testing.T) {
	for n := range 65 {
		key := strings.Repeat("k", n)
		for more := range 65 - n {
			sameMacs(t, key, key+strings.Repeat("\x00", more), true)
		}
		sameMacs(t, key, key+strings.Repeat("\x00", 65-n), false)
		sameMacs(t, key, key+"\x01", false)
		if n > 0 {
			sameMacs(t, key, "\x00"+key, false)
		}
	}
	sameMacs(t, "", strings.Repeat("\x00", 64), true)
	sameMacs(t, "k\x00k", "k\x00k\x00", true)
	sameMacs(t, "k\x00k", "kk", false)
	// A longer key counts as its digest: what stands behind it is in that, bytes 0 too.
	long := mixed(65)
	sameMacs(t, long, long+"\x00", false)
	sameMacs(t, long, long[:64], false)
}

// 24.3: a key of more than 64 bytes counts as its digest, and one of 64 as itself.
func TestLongKeysAndTheirDigests(t *testing.T) {
	for _, n := range []int{65, 66, 127, 128, 129, 1000, 100003} {
		key := mixed(n)
		sameMacs(t, key, sha.Sum(key), true)
		sameMacs(t, key, sha.Sum(key)+strings.Repeat("\x00", 32), true)
		sameMacs(t, key, sha.Sum(sha.Sum(key)), false)
	}
	for _, n := range []int{0, 1, 32, 63, 64} {
		key := mixed(n)
		sameMacs(t, key, sha.Sum(key), false)
	}
}

// The key is no part of the bytes, nor the bytes of the key.
func TestKeyAndBytesStandApart(t *testing.T) {
	all := mixed(130)
	seen := map[string]int{}
	for n := range len(all) + 1 {
		seen[sha.Mac(all[:n], all[n:])]++
	}
	seen[sha.Sum(all)]++
	if len(seen) != 132 {
		t.Error(len(seen))
	}
}
