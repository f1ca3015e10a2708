package auth_test

import (
	"math"
	"strings"
	"testing"

	"hopper/auth"
)

// 25.2: challenges and proofs.

func TestChallengesThatAreKnown(t *testing.T) {
	for _, x := range []struct {
		draw   uint64
		number int
		want   string
	}{
		{0, 0, "1dfb79c594c11cad8ee239c998dbf4b1821e9d01929ef43881656956926d52e8"},
		{5, 0, "179ce6a5ce59605c8a7c1ddde0146c918f8aa7c01366ae2ce962959f09e75cdd"},
		{0, 5, "02fe3553997800519ce91f41de4c40ce9f03a23f99d9e36a7aaeaf43ac3608fc"},
		{1, 0, "b7fbfd553e95dd24ecbc641f9466edcc849fb9a5928ffd79d40d52ddeca81fa5"},
		{0, 1, "f99e91b04ed3818268adc4bf5c53808de17e5a0cf777293a6f2699dc5d855c2a"},
		{0, -1, "549b201bfb883fe4bcdc1f4fb2ecb5af44cd3d976f8e4ecccc33c7f037dd4096"},
		{math.MaxUint64, 0, "fb2fe92cfc18cf66732c18c6d208afbabf250817c8cf351b9b45331a29010280"},
		{math.MaxUint64, -1, "4b223ed4ed905a5c7b4a5454d205664bf112f9fd28f4f12e94f7dc5d989df131"},
		{1 << 63, 0, "119fd5c71671c9d11ae6d2f8bbb417337ab52781c939d5f8edd0fba96056027a"},
		{0, math.MinInt64, "f700d1099aed66f8d88eda5ffe6007349256718c45d43980d39ceff312ddd96c"},
		{0, math.MaxInt64, "4885b9dcf457724a83f4c75ded78810e957b35f9cdd1866b8a93446d990a68d9"},
		{math.MaxUint64, math.MaxInt64, "8f30920776b7711d8afaccb865df3dc495c760dc61d1c82039e45d68c74f96d1"},
		{0x0102030405060708, 0x1112131415161718, "e2186a7b59a8691790efb1fe3e87b1621ffc5b1bb3baa6bbe00e0ff912ae5c7f"},
	} {
		challenged(t, x.draw, x.number, unhex(t, x.want))
	}
}

// edges are numbers at which a byte, or the sign, begins or ends.
func edges() []uint64 {
	out := []uint64{0, 1, 2, 5, 10, 100, math.MaxUint64, math.MaxUint64 - 1, 1<<63 - 1}
	for shift := 1; shift < 64; shift++ {
		out = append(out, 1<<shift, 1<<shift+1, math.MaxUint64<<shift)
	}
	return out
}

func TestChallengesOfEdges(t *testing.T) {
	for _, draw := range edges() {
		for _, number := range edges() {
			challenged(t, draw, int(number), libraryChallenge(draw, int(number)))
		}
	}
}

// No two draws, and no two numbers, have the same challenge; nor are both the same thing.
func TestChallengesAreApart(t *testing.T) {
	seen := map[string]int{}
	many := 0
	for draw := range uint64(60) {
		for number := -30; number < 30; number++ {
			seen[auth.Challenge(draw, number)]++
			many++
		}
	}
	if len(seen) != many {
		t.Error(len(seen), "of", many)
	}
}

func TestProofsThatAreKnown(t *testing.T) {
	c := unhex(t, "179ce6a5ce59605c8a7c1ddde0146c918f8aa7c01366ae2ce962959f09e75cdd")
	r := strings.Repeat
	for _, x := range [][4]string{
		{"k", "ann", c, "fb7aa8717369d7f7aa13edee0b9aa324d7f019622894ccd5808f175d33f84672"},
		{"x", "ann", c, "8a048216f69de01b5e67c3f162168b824e4efb00f33e2c9f64e8ba9314ba3a54"},
		{"", "", "", "6620b31f2924b8c01547745f41825d322336f83ebb13d723678789d554d8a3ef"},
		{"k", "", "", "679f05c0f197b486e60bca04c145367ad0218b5fc1c4666e2da19d8e28ffed77"},
		{"", "ann", "", "8ea4654a63d84b03accecefc069aca839a08bff05d78205c0ba13fe1d6f0430f"},
		{"", "", c, "db6d266405c088d83d37df535f6a187bb36b73fc6896728e10a22d4b9a726450"},
		{"k", "ann", "", "ad2e22ab33ff913cadf1a41a5427d3747f8ed6178caf6b9d9d856c30b97eeb03"},
		{r("k", 64), "ann", c, "4bc1a42c5e0020f99d6d8149a49274ade7fde2eaa189bbf0428836fba68a7302"},
		{r("k", 65), "ann", c, "0d230fcc2a6d83984b47039f6a824c29cce725cbbd704dbb40099a09ac95f633"},
		{r("\x00", 64), "ann", c, "403b68417c793aba18d212084eac019677ff6bf00f60a162103263b1344245c6"},
		{r("\xff", 64), "ann", c, "56c5e37d68e3f13b8bea63e631e183d20b2b336188ea786324c5dce045b34130"},
		{"k", "a\x00b", c, "47ace1c33c4c0ee786da9d3746ab95c1e2cb4912d23d870af9787a02b5af30f5"},
		{"k", "\x00", "\x00", "b986c16e95a7c9f0ecbb93faca46506ce8c464a16a78856764d189b0f3ce6d8d"},
	} {
		proved(t, x[0], x[1], x[2], unhex(t, x[3]))
	}
}

// A proof is of any texts: of names and keys, too, that may not be.
func TestProofsOfAnyTexts(t *testing.T) {
	keys := append(keysThatMayBe(), "", mixed(65), mixed(66), mixed(128), mixed(129), mixed(1000), strings.Repeat("\x00", 65), mixed(1<<18+1))
	names := append(namesThatMayNotBe(), "ann", ".", strings.Repeat("a", 32), mixed(64), mixed(1<<18+1))
	challenges := []string{"", "\x00", "c", libraryChallenge(5, 0), mixed(31), mixed(55), mixed(64), mixed(300), strings.Repeat("\x00", 32)}
	for _, key := range keys {
		for _, name := range names {
			if len(key)+len(name) < 1<<17 {
				for _, c := range challenges {
					proved(t, key, name, c, libraryProof(key, name, c))
				}
			}
		}
	}
	for _, n := range []int{1<<18 - 1, 1 << 18, 1<<18 + 1, 1 << 20} {
		proved(t, mixed(n), "ann", "c", libraryProof(mixed(n), "ann", "c"))
		proved(t, "k", mixed(n), "c", libraryProof("k", mixed(n), "c"))
		proved(t, "k", "ann", mixed(n), libraryProof("k", "ann", mixed(n)))
	}
}

// The byte 0 stands between a name and a challenge, wherever the one ends and the other begins.
func TestNameAndChallengeStandApart(t *testing.T) {
	all := "abcdefghijklmnopqrstuvwxyz"
	seen := map[string]int{}
	for at := range len(all) + 1 {
		seen[auth.Proof("k", all[:at], all[at:])]++
	}
	seen[libraryMac("k", all)]++
	if len(seen) != len(all)+2 {
		t.Error(len(seen))
	}
	// A name's own byte 0 is none of the proof's.
	proved(t, "k", "a\x00b", "c", auth.Proof("k", "a", "b\x00c"))
	proved(t, "k", "", "\x00", auth.Proof("k", "\x00", ""))
}
