package wire_test

import (
	"math"
	"slices"
	"strings"
	"testing"
	"unsafe"

	"hopper/api"
	"hopper/wire"
)

const longest = api.MaxFrame

// length writes a number as four bytes, the highest first.
func length(n uint32) string {
	return string([]byte{byte(n >> 24), byte(n >> 16), byte(n >> 8), byte(n)})
}

// packed is the packet of a body by the chapter's words; the body may be too long for one.
func packed(body string) string { return length(uint32(len(body))) + body }

// inRow has the packets of bodies, one behind the other.
func inRow(bodies ...string) string {
	var out strings.Builder
	for _, b := range bodies {
		out.WriteString(packed(b))
	}
	return out.String()
}

// some has bodies of several lengths, of bytes that look like lengths, too.
func some() []string {
	return []string{
		"", "\x00", "\xff", "a", "ab", "abc", "abcd", "abcde",
		"\x00\x00\x00\x00", "\xff\xff\xff\xff", "\x00\x00\x00\x01x", "hopper \x80\xfe\x00",
		strings.Repeat("\x00", 255), strings.Repeat("xy", 128), strings.Repeat("xyz", 100), "",
	}
}

// tooGreat has lengths above the greatest one that a packet may have.
func tooGreat() []uint32 {
	return []uint32{longest + 1, longest + 2, longest + 257, 1 << 17, 1<<24 - 1, 1 << 24, 1<<31 - 1, 1 << 31, 1<<31 + 1, math.MaxUint32 - 3, math.MaxUint32}
}

// feed fails unless the reader answers these bodies and this error, and is then as told.
func feed(t *testing.T, r *wire.Reader, b string, want []string, e api.Errno, left int, bad bool) {
	t.Helper()
	got, code := r.Feed(b)
	if !slices.Equal(got, want) || code != e {
		t.Errorf("feed of %d bytes %.40x: %d bodies %.60q, %d; not %d bodies %.60q, %d", len(b), b, len(got), got, code, len(want), want, e)
	}
	state(t, r, left, bad)
}

// good feeds what leaves the reader good.
func good(t *testing.T, r *wire.Reader, b string, left int, want ...string) {
	t.Helper()
	feed(t, r, b, want, api.OK, left, false)
}

// worse feeds what makes the reader bad.
func worse(t *testing.T, r *wire.Reader, b string, want ...string) {
	t.Helper()
	feed(t, r, b, want, api.ErrFrame, 0, true)
}

// state fails unless that is what the reader tells of itself, asked again, too.
func state(t *testing.T, r *wire.Reader, left int, bad bool) {
	t.Helper()
	for range 2 {
		if r.Left() != left || r.Bad() != bad {
			t.Errorf("left %d, bad %t; not %d, %t", r.Left(), r.Bad(), left, bad)
		}
	}
}

// staysBad feeds a bad reader whatever there may be.
func staysBad(t *testing.T, r *wire.Reader) {
	t.Helper()
	for _, b := range []string{
		"", "x", "\x00", packed(""), packed("abc"), inRow(some()...), length(longest + 1), length(math.MaxUint32),
		strings.Repeat("\x00", api.MaxBytes), strings.Repeat("\x00", api.MaxBytes+1), strings.Repeat("q", 1<<20),
	} {
		worse(t, r, b)
	}
}

// 7.1: the packet of a body.

func TestPacketIsLengthAndBody(t *testing.T) {
	for _, b := range some() {
		if got, e := wire.Packet(b); got != packed(b) || e != api.OK {
			t.Errorf("packet of %.40x: %.60x %d", b, got, e)
		}
	}
}

func TestPacketWrittenOut(t *testing.T) {
	for _, x := range []struct{ ahead, body string }{
		{"\x00\x00\x00\x00", ""},
		{"\x00\x00\x00\x01", "\x00"},
		{"\x00\x00\x00\x03", "abc"},
		{"\x00\x00\x00\xff", strings.Repeat("q", 255)},
		{"\x00\x00\x01\x00", strings.Repeat("q", 256)},
		{"\x00\x00\x12\x34", strings.Repeat("q", 0x1234)},
		{"\x00\x00\xff\xff", strings.Repeat("q", 65535)},
		{"\x00\x01\x00\x00", strings.Repeat("q", 65536)},
	} {
		if got, e := wire.Packet(x.body); got != x.ahead+x.body || e != api.OK {
			t.Errorf("packet of %d bytes: %.40x %d", len(x.body), got, e)
		}
	}
}

func TestPacketOfTooMany(t *testing.T) {
	for _, n := range []int{longest + 1, longest + 2, 2 * longest, api.MaxBytes, api.MaxBytes + 1, 1 << 20} {
		if got, e := wire.Packet(strings.Repeat("q", n)); got != "" || e != api.ErrLong {
			t.Errorf("packet of %d bytes: %d bytes %d", n, len(got), e)
		}
	}
}

func TestNewIsGoodAndHasTakenNothing(t *testing.T) {
	r := wire.New()
	state(t, r, 0, false)
	good(t, r, "", 0)
	good(t, r, packed("abc"), 0, "abc")
}

// 7.2: bodies of packets that are whole.

func TestFeedOfNoByte(t *testing.T) {
	whole := packed("abc")
	for n := range len(whole) {
		r := wire.New()
		good(t, r, whole[:n], n)
		for range 3 {
			good(t, r, "", n)
		}
		good(t, r, whole[n:], 0, "abc")
		good(t, r, "", 0) // a body is given out once
	}
}

func TestFeedOfOnePacket(t *testing.T) {
	for _, b := range some() {
		r := wire.New()
		for range 3 {
			good(t, r, packed(b), 0, b)
		}
	}
}

func TestFeedOfManyPackets(t *testing.T) {
	r := wire.New()
	good(t, r, inRow(some()...), 0, some()...)
	good(t, r, strings.Repeat(inRow(some()...), 100), 0, slices.Repeat(some(), 100)...)
}

func TestFeedOfManyAndAPart(t *testing.T) {
	last := packed("behind")
	for n := range len(last) {
		r := wire.New()
		good(t, r, inRow("a", "", "bcd")+last[:n], n, "a", "", "bcd")
		good(t, r, last[n:]+inRow("x", "")+last[:n], n, "behind", "x", "")
		good(t, r, last[n:], 0, "behind")
	}
}

func TestFeedOfPacketsOfNoByte(t *testing.T) {
	r := wire.New()
	for _, n := range []int{1, 2, 3, 1000} {
		good(t, r, strings.Repeat(packed(""), n), 0, make([]string, n)...)
	}
	for n := range 4 {
		good(t, r, strings.Repeat("\x00", n), n)
		good(t, r, strings.Repeat("\x00", 4-n), 0, "")
	}
	good(t, r, strings.Repeat("\x00", 11), 3, "", "")
	good(t, r, "\x00"+packed("a"), 0, "", "a")
}

// 7.2: how many bytes a piece may have.

func TestFeedOfTheMost(t *testing.T) {
	r := wire.New()
	good(t, r, strings.Repeat(packed(""), api.MaxBytes/4), 0, make([]string, api.MaxBytes/4)...)
	b := strings.Repeat("q", longest)
	// Three of the greatest packets and most of a fourth: that lacks what the lengths took.
	all := inRow(b, b, b, b)
	good(t, r, all[:api.MaxBytes], longest-12, b, b, b)
	good(t, r, all[api.MaxBytes:], 0, b)
	// As many as may be on top of as many as may be left.
	good(t, r, packed(b)[:longest+3], longest+3)
	good(t, r, "q"+strings.Repeat("\x00", api.MaxBytes-1), 3, append([]string{b}, make([]string, api.MaxBytes/4-1)...)...)
}

func TestFeedOfTooMany(t *testing.T) {
	whole := packed("abc")
	for _, n := range []int{api.MaxBytes + 1, api.MaxBytes + 2, 1 << 20} {
		for cut := range len(whole) {
			r := wire.New()
			good(t, r, whole[:cut], cut)
			for _, part := range []string{"\x00", "\xff", "q"} {
				feed(t, r, strings.Repeat(part, n), nil, api.ErrLong, cut, false)
			}
			good(t, r, whole[cut:]+packed("behind"), 0, "abc", "behind")
		}
	}
}

// 7.2: lengths.

func TestFeedOfTheGreatestLength(t *testing.T) {
	b := strings.Repeat("q", longest)
	for _, cut := range []int{1, 2, 3, 4, 5, longest, longest + 3} {
		r := wire.New()
		good(t, r, packed(b)[:cut], cut)
		good(t, r, packed(b)[cut:], 0, b)
		good(t, r, packed(b)+packed(b)[:cut], cut, b)
		good(t, r, packed(b)[cut:]+packed("a"), 0, b, "a")
	}
	for _, n := range []int{255, 256, 257, 65535} {
		good(t, wire.New(), inRow(b[:n], "a"), 0, b[:n], "a")
	}
}

func TestFeedOfALengthTooGreat(t *testing.T) {
	for _, n := range tooGreat() {
		for _, behind := range []string{"", "x", packed("abc"), strings.Repeat("q", longest+1)} {
			r := wire.New()
			worse(t, r, length(n)+behind)
			worse(t, r, packed("abc"))
		}
	}
	// All that such a packet needs stands there: it is too great nevertheless.
	worse(t, wire.New(), packed(strings.Repeat("q", longest+1)))
}

// A length is met when its four bytes are there, whatever the first ones tell.
func TestFeedOfALengthTooGreatThatIsCut(t *testing.T) {
	for _, n := range tooGreat() {
		for cut := range 4 {
			r := wire.New()
			good(t, r, length(n)[:cut], cut)
			worse(t, r, length(n)[cut:])
		}
		r := wire.New()
		for i := range 3 {
			good(t, r, length(n)[i:i+1], i+1)
		}
		worse(t, r, length(n)[3:])
	}
}

func TestWholePacketsAheadOfALengthTooGreat(t *testing.T) {
	for _, n := range tooGreat() {
		r := wire.New() // in the same piece
		worse(t, r, inRow(some()...)+length(n)+inRow(some()...), some()...)
		staysBad(t, r)
		r = wire.New() // in an earlier one
		good(t, r, inRow(some()...), 0, some()...)
		worse(t, r, length(n))
		staysBad(t, r)
		r = wire.New() // in both, with what was left of the one
		good(t, r, inRow("a", "bc")[:10], 5, "a")
		worse(t, r, inRow("a", "bc")[10:]+packed("")+length(n)+packed("lost"), "bc", "")
		staysBad(t, r)
	}
}

func TestBadForEver(t *testing.T) {
	for _, n := range tooGreat() {
		r := wire.New()
		worse(t, r, length(n))
		staysBad(t, r)
		staysBad(t, r)
	}
}

// What would make the bytes behind such a length whole does not: they are not taken.
func TestNothingBehindALengthTooGreat(t *testing.T) {
	r := wire.New()
	worse(t, r, length(longest+1)+"q")
	for range 2 {
		worse(t, r, strings.Repeat("q", longest))
	}
	worse(t, r, packed("abc"))
}

// R1: what the chapter names first is told first.
func TestOrderOfErrors(t *testing.T) {
	many := length(longest+1) + strings.Repeat("q", api.MaxBytes)
	r := wire.New()
	feed(t, r, many, nil, api.ErrLong, 0, false) // too many bytes ahead of a length that is too great
	feed(t, r, many[:api.MaxBytes+1], nil, api.ErrLong, 0, false)
	worse(t, r, many[:api.MaxBytes])
	worse(t, r, many) // bad ahead of too many bytes
	r = wire.New()
	good(t, r, packed("a")+length(longest + 1)[:3], 3, "a")
	feed(t, r, "\x01"+many, nil, api.ErrLong, 3, false) // too many bytes ahead of what is left
	worse(t, r, "\x01")
	worse(t, r, "\x01"+many)
}

func TestTwoReadersBesideEachOther(t *testing.T) {
	a, b := wire.New(), wire.New()
	good(t, a, packed("abc")[:5], 5)
	state(t, b, 0, false)
	good(t, b, packed("xyz")[:6], 6)
	good(t, a, "bc"+packed("d")[:2], 2, "abc")
	state(t, b, 6, false)
	worse(t, b, "z"+length(longest+1), "xyz")
	state(t, a, 2, false)
	good(t, a, packed("d")[2:], 0, "d")
	worse(t, b, packed("d"))
	c := wire.New()
	state(t, c, 0, false)
	good(t, c, packed("new"), 0, "new")
	state(t, a, 0, false)
	state(t, b, 0, true)
}

// 7.3: what is given out is what was put in, however the bytes are cut.

// put has the packets of bodies as Packet tells them.
func put(t *testing.T, bodies []string) string {
	t.Helper()
	var out strings.Builder
	for _, b := range bodies {
		p, e := wire.Packet(b)
		if e != api.OK {
			t.Fatal(e)
		}
		out.WriteString(p)
	}
	return out.String()
}

func TestCutAtEveryPlace(t *testing.T) {
	all := put(t, some())
	for cut := range len(all) + 1 {
		r := wire.New()
		one, e := r.Feed(all[:cut])
		if e != api.OK || r.Bad() || len(inRow(one...))+r.Left() != cut {
			t.Errorf("cut at %d: %d bodies, %d, left %d", cut, len(one), e, r.Left())
		}
		two, e := r.Feed(all[cut:])
		if e != api.OK || !slices.Equal(append(one, two...), some()) {
			t.Errorf("cut at %d: other bodies, %d", cut, e)
		}
		state(t, r, 0, false)
	}
}

func TestCutAtTwoPlaces(t *testing.T) {
	in := []string{"", "abc", "\x00\x00", "hopper", "\xff\xff\xff\xff\xff"}
	all := put(t, in)
	for to := range len(all) + 1 {
		for from := range to + 1 {
			r := wire.New()
			var out []string
			for _, piece := range []string{all[:from], all[from:to], all[to:]} {
				got, e := r.Feed(piece)
				if e != api.OK {
					t.Fatal(from, to, e)
				}
				out = append(out, got...)
			}
			if !slices.Equal(out, in) {
				t.Errorf("cut at %d and %d: %q", from, to, out)
			}
			state(t, r, 0, false)
		}
	}
}

func TestOneByteAtATime(t *testing.T) {
	r := wire.New()
	for _, b := range append(some(), strings.Repeat("q", longest)) {
		whole := packed(b)
		last := len(whole) - 1
		for i := range last {
			got, e := r.Feed(whole[i : i+1])
			if len(got) != 0 || e != api.OK || r.Left() != i+1 || r.Bad() {
				t.Fatalf("byte %d of %d: %d bodies, %d, left %d, bad %t", i, last, len(got), e, r.Left(), r.Bad())
			}
		}
		good(t, r, whole[last:], 0, b)
	}
	for i := range 3 {
		good(t, r, length(longest + 1)[i:i+1], i+1)
	}
	worse(t, r, "\x01")
}

func TestPiecesOfEachSize(t *testing.T) {
	all := put(t, some())
	for size := 1; size < 40; size++ {
		r := wire.New()
		var out []string
		for piece := range slices.Chunk([]byte(all), size) {
			got, e := r.Feed(string(piece))
			if e != api.OK {
				t.Fatal(size, e)
			}
			out = append(out, got...)
		}
		if !slices.Equal(out, some()) {
			t.Errorf("pieces of %d: other bodies", size)
		}
		state(t, r, 0, false)
	}
}

// 7.3: behind a length that is too great nothing is given out, however the bytes are cut.
func TestCutAroundALengthTooGreat(t *testing.T) {
	in := []string{"abc", "", "de"}
	ahead := put(t, in)
	all := ahead + length(longest+1) + put(t, in)
	for cut := range len(all) + 1 {
		r := wire.New()
		one, e := r.Feed(all[:cut])
		met := cut >= len(ahead)+4
		if r.Bad() != met || (e == api.ErrFrame) != met {
			t.Errorf("cut at %d: %d, bad %t", cut, e, r.Bad())
		}
		two, e := r.Feed(all[cut:])
		if e != api.ErrFrame || !slices.Equal(append(one, two...), in) {
			t.Errorf("cut at %d: %q, %d", cut, append(one, two...), e)
		}
		state(t, r, 0, true)
	}
}

// R4: an answer is new memory, and what was handed in is neither changed nor kept.

func shares(a, b string) bool {
	if a == "" || b == "" {
		return false
	}
	p, q := uintptr(unsafe.Pointer(unsafe.StringData(a))), uintptr(unsafe.Pointer(unsafe.StringData(b)))
	return p < q+uintptr(len(b)) && q < p+uintptr(len(a))
}

func TestAnswersAreNew(t *testing.T) {
	body := strings.Repeat("abc", 100)
	one, _ := wire.Packet(body)
	again, _ := wire.Packet(body)
	if shares(one, body) || shares(one, again) {
		t.Error("Packet")
	}
	all := one + one + one
	got, _ := wire.New().Feed(all)
	more, _ := wire.New().Feed(all)
	for i, x := range got {
		if x != body || shares(x, all) || shares(x, more[i]) || shares(x, got[(i+1)%3]) {
			t.Error("Feed", i)
		}
	}
	got[0] = "other"
	if more[0] != body {
		t.Error("one list of bodies is another's")
	}
}

// The bodies that were told stay as they are, and so does a list of them with what lies behind its length.
func TestToldStays(t *testing.T) {
	r := wire.New()
	one, _ := r.Feed(inRow("abc", "def", "ghi") + packed("left")[:5])
	spare := one[:cap(one)]
	for i := range spare {
		spare[i] = "mine"
	}
	two, _ := r.Feed("eft" + inRow("1", "2", "3", "4"))
	if !slices.Equal(two, []string{"left", "1", "2", "3", "4"}) {
		t.Errorf("%q", two)
	}
	for i := range spare {
		if spare[i] != "mine" {
			t.Error("a list that was told was changed")
		}
	}
	three, _ := r.Feed(packed("abc"))
	four, _ := r.Feed(packed("xyz"))
	if three[0] != "abc" || four[0] != "xyz" || two[0] != "left" {
		t.Error("what was told was changed")
	}
}

func TestHandedInIsNeitherChangedNorKept(t *testing.T) {
	room := []byte(inRow("abc", "defg") + packed("left")[:6])
	held := slices.Clone(room)
	b := unsafe.String(&room[0], len(room))
	r := wire.New()
	got, e := r.Feed(b)
	if e != api.OK || !slices.Equal(room, held) {
		t.Fatal("what was handed in was changed", e)
	}
	clear(room)
	if !slices.Equal(got, []string{"abc", "defg"}) {
		t.Errorf("bodies are of what was handed in: %q", got)
	}
	good(t, r, "ft", 0, "left")
	part := []byte(packed("abc")[:5])
	good(t, r, unsafe.String(&part[0], len(part)), 5)
	clear(part)
	good(t, r, "bc", 0, "abc")

	body := []byte("abc")
	p, e := wire.Packet(unsafe.String(&body[0], len(body)))
	if e != api.OK || string(body) != "abc" {
		t.Error("what was handed in was changed", e)
	}
	clear(body)
	if p != packed("abc") {
		t.Errorf("a packet is of what was handed in: %x", p)
	}
}

// The chapter's example.
func TestExample(t *testing.T) {
	p, e := wire.Packet("abc")
	if p != string([]byte{0, 0, 0, 3, 97, 98, 99}) || e != api.OK {
		t.Errorf("%x %d", p, e)
	}
	r := wire.New()
	good(t, r, string([]byte{0, 0}), 2)
	good(t, r, string([]byte{0, 3, 97, 98, 99, 0}), 1, "abc")
	worse(t, r, string([]byte{1, 0, 1}))
}
