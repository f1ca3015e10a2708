package frame_test

import (
	"hash/crc32"
	"math"
	"slices"
	"strings"
	"testing"
	"unsafe"

	"hopper/api"
	"hopper/frame"
)

const longest = api.MaxFrame

// word writes a number as four bytes, the lowest first.
func word(n uint32) string {
	return string([]byte{byte(n), byte(n >> 8), byte(n >> 16), byte(n >> 24)})
}

// framed is the frame of b by the chapter's words, the sum by Go's own library; b may be too long for one.
func framed(b string) string {
	s := word(uint32(len(b))) + b
	return s + word(crc32.ChecksumIEEE([]byte(s)))
}

// bodies has bytes of several lengths that a frame may have.
func bodies() []string {
	return []string{
		"", "\x00", "\xff", "a", "ab", "abc", "abcd", "abcde",
		"\x00\x00\x00\x00", "\xff\xff\xff\xff", "hopper \x80\xfe\x00",
		strings.Repeat("\x00", 300), strings.Repeat("xyz", 100),
	}
}

func fault(at int, e api.Errno) api.Fault { return api.Fault{At: at, Code: e} }

func sum(t *testing.T, b string, want uint32) {
	t.Helper()
	if got := frame.Sum(b); got != want {
		t.Errorf("sum of %d bytes %.40x: %08x, not %08x", len(b), b, got, want)
	}
}

func found(t *testing.T, b string, at int, want string, behind int) {
	t.Helper()
	body, end, f := frame.Unframe(b, at)
	if body != want || end != behind || f != (api.Fault{}) {
		t.Errorf("of %d bytes at %d: %d bytes %.40x, %d, %v; not %d bytes %.40x, %d", len(b), at, len(body), body, end, f, len(want), want, behind)
	}
}

func faulty(t *testing.T, b string, at int, want api.Fault) {
	t.Helper()
	body, end, f := frame.Unframe(b, at)
	if body != "" || end != 0 || f != want {
		t.Errorf("of %d bytes %.40x at %d: %d bytes, %d, %v; not %v", len(b), b, at, len(body), end, f, want)
	}
}

func list(t *testing.T, b string, want []string, behind int) {
	t.Helper()
	got, end := frame.Frames(b)
	if !slices.Equal(got, want) || end != behind {
		t.Errorf("of %d bytes %.40x: %d bodies, %d; not %d, %d", len(b), b, len(got), end, len(want), behind)
	}
}

// 6.1: the sum of bytes, of any number.

func TestSumOfNothing(t *testing.T) { sum(t, "", 0) }

func TestSumsThatAreKnown(t *testing.T) {
	sum(t, "123456789", 0xCBF43926)
	sum(t, "\x00\x00\x00\x00", 0x2144DF1C)
	sum(t, "\xff\xff\xff\xff", 0xFFFFFFFF)
	sum(t, "a", 0xE8B7BE43)
	sum(t, "abc", 0x352441C2)
	sum(t, "message digest", 0x20159D7F)
	sum(t, "abcdefghijklmnopqrstuvwxyz", 0x4C2750BD)
	sum(t, "The quick brown fox jumps over the lazy dog", 0x414FA339)
	sum(t, strings.Repeat("\x00", 32), 0x190A55AD)
	sum(t, strings.Repeat("\xff", 32), 0xFF6CAB0B)
}

func TestSumOfEachByte(t *testing.T) {
	for c := range 256 {
		one := string([]byte{byte(c)})
		sum(t, one, crc32.ChecksumIEEE([]byte(one)))
		two := one + "x" + one
		sum(t, two, crc32.ChecksumIEEE([]byte(two)))
	}
}

func TestSumOfLongBytes(t *testing.T) {
	for _, n := range []int{longest, longest + 1, api.MaxBytes, api.MaxBytes + 1, 1 << 20} {
		for _, part := range []string{"\x00", "\xff", "hopper", "\x01\x80\x7f"} {
			b := strings.Repeat(part, n/len(part)+1)[:n]
			sum(t, b, crc32.ChecksumIEEE([]byte(b)))
		}
	}
}

// 6.1: the frame of bytes.

func TestFrameIsLengthBytesSum(t *testing.T) {
	for _, b := range bodies() {
		if got, e := frame.Frame(b); got != framed(b) || e != api.OK {
			t.Errorf("frame of %.40x: %.60x %d", b, got, e)
		}
	}
}

func TestFrameWrittenOut(t *testing.T) {
	for b, want := range map[string]string{
		"":          "\x00\x00\x00\x00" + "\x1c\xdf\x44\x21",
		"123456789": "\x09\x00\x00\x00" + "123456789" + "\xe2\x61\x1c\xa5",
	} {
		if got, e := frame.Frame(b); got != want || e != api.OK {
			t.Errorf("frame of %q: %x %d, not %x", b, got, e, want)
		}
	}
}

func TestFrameOfTheMost(t *testing.T) {
	for _, n := range []int{255, 256, 257, 65535, longest - 1, longest} {
		b := strings.Repeat("q", n)
		got, e := frame.Frame(b)
		if got != framed(b) || e != api.OK {
			t.Errorf("frame of %d bytes: %d bytes %d", n, len(got), e)
		}
		found(t, got, 0, b, n+8)
	}
}

func TestFrameOfTooMany(t *testing.T) {
	for _, n := range []int{longest + 1, longest + 2, api.MaxBytes, api.MaxBytes + 1, 1 << 20} {
		if got, e := frame.Frame(strings.Repeat("q", n)); got != "" || e != api.ErrLong {
			t.Errorf("frame of %d bytes: %d bytes %d", n, len(got), e)
		}
	}
}

// 6.2: a frame at a place.

func TestUnframeFinds(t *testing.T) {
	for _, b := range bodies() {
		found(t, framed(b), 0, b, len(b)+8)
	}
}

func TestUnframeAtNoPlace(t *testing.T) {
	good := framed("abc")
	for _, b := range []string{"", "x", "abc", "\xff\xff\xff\xff", good, good + good, good[:5]} {
		for _, at := range []int{-1, -2, -4, -8, math.MinInt, math.MinInt + 1, len(b) + 1, len(b) + 2, math.MaxInt - 8, math.MaxInt - 3, math.MaxInt} {
			faulty(t, b, at, fault(0, api.ErrRange))
		}
	}
}

func TestUnframeAtTheEnds(t *testing.T) {
	good := framed("abc")
	found(t, good, 0, "abc", 11)
	found(t, good+good, 11, "abc", 22)
	faulty(t, good, len(good), fault(11, api.ErrEnd))
	faulty(t, "", 0, fault(0, api.ErrEnd))
}

func TestUnframeOfTooFewForALength(t *testing.T) {
	for _, length := range []string{"\x00\x00\x00\x00", "\xff\xff\xff\xff", "\x01\x00\x01\x00"} {
		for n := range 4 {
			faulty(t, length[:n], 0, fault(0, api.ErrEnd))
			faulty(t, "ahead"+length[:n], 5, fault(5, api.ErrEnd))
		}
	}
}

func TestUnframeOfALengthTooGreat(t *testing.T) {
	for _, n := range []uint32{longest + 1, longest + 2, 1 << 17, 1<<24 - 1, 1 << 24, 1<<31 - 1, 1 << 31, 1<<31 + 1, math.MaxUint32 - 8, math.MaxUint32} {
		faulty(t, word(n), 0, fault(0, api.ErrLong))
		faulty(t, "ahead"+word(n)+"behind", 5, fault(5, api.ErrLong))
	}
	// All that such a frame needs stands there: it is too long nevertheless.
	faulty(t, framed(strings.Repeat("q", longest+1)), 0, fault(0, api.ErrLong))
}

func TestUnframeOfTheGreatestLength(t *testing.T) {
	b := strings.Repeat("q", longest)
	good := framed(b)
	found(t, good, 0, b, longest+8)
	for _, n := range []int{4, 5, longest, longest + 3, longest + 4, longest + 5, longest + 7} {
		faulty(t, good[:n], 0, fault(0, api.ErrEnd))
	}
}

func TestUnframeOfBytesThatEndEarly(t *testing.T) {
	for _, b := range bodies() {
		good := framed(b)
		for n := range len(good) {
			faulty(t, good[:n], 0, fault(0, api.ErrEnd))
			faulty(t, "zz"+good[:n], 2, fault(2, api.ErrEnd))
		}
	}
}

func TestUnframeOfWrongSum(t *testing.T) {
	for _, b := range bodies() {
		good := []byte(framed(b))
		for i := range 4 {
			for bit := range 8 {
				bad := slices.Clone(good)
				bad[4+len(b)+i] ^= 1 << bit
				faulty(t, string(bad), 0, fault(0, api.ErrSum))
			}
		}
	}
	// Sums that look nearly so: of the body alone, with its bytes the other way round, not turned about.
	whole := word(3) + "abc"
	right := crc32.ChecksumIEEE([]byte(whole))
	for _, wrong := range []string{
		word(crc32.ChecksumIEEE([]byte("abc"))),
		word(^right),
		string([]byte{byte(right >> 24), byte(right >> 16), byte(right >> 8), byte(right)}),
		word(0),
	} {
		faulty(t, whole+wrong, 0, fault(0, api.ErrSum))
	}
}

func TestUnframeOfLongBytes(t *testing.T) {
	ahead := strings.Repeat("\xff", 1<<20)
	b := ahead + framed("abc") + ahead
	found(t, b, 1<<20, "abc", 1<<20+11)
	faulty(t, b, 0, fault(0, api.ErrLong))
	faulty(t, b, 1<<20+11, fault(1<<20+11, api.ErrLong))
	faulty(t, b, len(b), fault(len(b), api.ErrEnd))
}

// R1: what is wrong with the place is told first, then what the chapter names first.
func TestOrderOfErrors(t *testing.T) {
	faulty(t, word(math.MaxUint32), -1, fault(0, api.ErrRange))
	faulty(t, "\xff\xff\xff", 4, fault(0, api.ErrRange))
	faulty(t, "\xff\xff\xff", 0, fault(0, api.ErrEnd))         // too few for a length that would be too great
	faulty(t, word(longest+1), 0, fault(0, api.ErrLong))       // too great ahead of too few behind it
	faulty(t, word(longest+1)+"x", 0, fault(0, api.ErrLong))   //
	faulty(t, word(5)+"abcd"+word(0), 0, fault(0, api.ErrEnd)) // too few ahead of a wrong sum
	faulty(t, word(4)+"abcd"+word(0), 0, fault(0, api.ErrSum))
	faulty(t, word(longest+1)+strings.Repeat("q", longest+5), 0, fault(0, api.ErrLong)) // too great ahead of a wrong sum
}

// 6.2: the frames from 0 on.

func TestFramesOfNothing(t *testing.T) { list(t, "", nil, 0) }

func TestFramesOne(t *testing.T) {
	for _, b := range bodies() {
		list(t, framed(b), []string{b}, len(b)+8)
	}
}

func TestFramesMany(t *testing.T) {
	var all strings.Builder
	for _, b := range bodies() {
		all.WriteString(framed(b))
	}
	list(t, all.String(), bodies(), all.Len())
	list(t, strings.Repeat(all.String(), 50), slices.Repeat(bodies(), 50), 50*all.Len())
}

func TestFramesOfNoByte(t *testing.T) {
	none := framed("")
	for _, n := range []int{1, 2, 3, 1000} {
		list(t, strings.Repeat(none, n), make([]string, n), 8*n)
	}
	list(t, none+framed("a")+none, []string{"", "a", ""}, 25)
}

func TestFramesOfTheMost(t *testing.T) {
	b := strings.Repeat("q", longest)
	list(t, framed(b)+framed("a")+framed(b), []string{b, "a", b}, 2*(longest+8)+9)
}

// faults has bytes that are no frame, of each kind.
func faults() []string {
	good := framed("lost")
	return []string{
		"x", "xy", "xyz", "\x00", "\x00\x00\x00",
		good[:4], good[:6], good[:len(good)-4], good[:len(good)-1],
		word(longest + 1), word(math.MaxUint32),
		good[:5] + "x" + good[6:], good[:len(good)-1] + "?",
	}
}

func TestFramesUpToAFault(t *testing.T) {
	for _, bad := range faults() {
		for n := range 4 {
			ahead := strings.Repeat(framed("abc"), n)
			list(t, ahead+bad, slices.Repeat([]string{"abc"}, n), 11*n)
		}
		list(t, framed("")+bad, []string{""}, 8)
	}
}

// A fault that is whole, by its length, has frames behind it that are not told.
func TestFramesNoneBehindAFault(t *testing.T) {
	good := framed("lost")
	for i := 4; i < len(good); i++ {
		bad := []byte(good)
		bad[i] ^= 0x10
		list(t, framed("abc")+string(bad)+framed("behind")+framed("behind"), []string{"abc"}, 11)
	}
	list(t, word(longest+1)+framed("behind"), nil, 0)
	list(t, framed("a")+word(math.MaxUint32)+framed("behind"), []string{"a"}, 9)
	list(t, "x"+framed("behind"), nil, 0)
}

// 6.3: a frame is found wherever it stands, whatever stands behind it.
func TestFoundWherever(t *testing.T) {
	for _, b := range bodies() {
		good, e := frame.Frame(b)
		if e != api.OK {
			t.Fatal(e)
		}
		for _, ahead := range append(faults(), "", framed("ahead"), strings.Repeat("z", 70000)) {
			for _, behind := range append(faults(), "", framed("behind"), good, "\x00") {
				found(t, ahead+good+behind, len(ahead), b, len(ahead)+len(good))
			}
		}
	}
}

// 6.3: one that ends early is none.
func TestEndsEarly(t *testing.T) {
	for _, b := range bodies() {
		good, _ := frame.Frame(b)
		for n := range len(good) {
			list(t, good[:n], nil, 0)
			list(t, framed("ab")+good[:n], []string{"ab"}, 10)
		}
	}
}

// 6.3: nor is one in which one byte behind the length is another one.
func TestAnotherByte(t *testing.T) {
	for _, b := range []string{"", "a", "abc", "\x00\x00\xff", "hopper"} {
		good, _ := frame.Frame(b)
		for i := 4; i < len(good); i++ {
			for c := range 256 {
				bad := []byte(good)
				if bad[i] == byte(c) {
					continue
				}
				bad[i] = byte(c)
				faulty(t, string(bad), 0, fault(0, api.ErrSum))
				list(t, string(bad)+good, nil, 0)
			}
		}
	}
}

func TestAnotherByteOfTheMost(t *testing.T) {
	good, _ := frame.Frame(strings.Repeat("q", longest))
	for _, i := range []int{4, 5, 1000, longest / 2, longest + 3, longest + 4, longest + 5, longest + 7} {
		bad := []byte(good)
		bad[i] ^= 1
		faulty(t, string(bad), 0, fault(0, api.ErrSum))
	}
}

// R4: an answer is new memory, also where it is a piece of what was handed in.

func shares(a, b string) bool {
	if a == "" || b == "" {
		return false
	}
	p, q := uintptr(unsafe.Pointer(unsafe.StringData(a))), uintptr(unsafe.Pointer(unsafe.StringData(b)))
	return p < q+uintptr(len(b)) && q < p+uintptr(len(a))
}

func TestAnswersAreNew(t *testing.T) {
	b := strings.Repeat("abc", 100)
	one, _ := frame.Frame(b)
	if shares(one, b) {
		t.Error("Frame")
	}
	body, _, _ := frame.Unframe(one, 0)
	again, _, _ := frame.Unframe(one, 0)
	if body != b || shares(body, one) || shares(body, again) {
		t.Error("Unframe")
	}
	all := one + one + one
	got, _ := frame.Frames(all)
	more, _ := frame.Frames(all)
	for i, x := range got {
		if x != b || shares(x, all) || shares(x, more[i]) || shares(x, got[(i+1)%3]) {
			t.Error("Frames", i)
		}
	}
	got[0] = "other"
	if more[0] != b {
		t.Error("one list of bodies is another's")
	}
}

// R4, R7: what was handed in stays as it is, and the same is told again.
func TestHandedInStays(t *testing.T) {
	bytes := []byte(framed("abc") + framed("abcd") + "x")
	held := slices.Clone(bytes)
	b := unsafe.String(&bytes[0], len(bytes))
	for range 3 {
		sum(t, b, crc32.ChecksumIEEE(held))
		if s, e := frame.Frame(b); s != framed(string(held)) || e != api.OK {
			t.Error("Frame")
		}
		found(t, b, 11, "abcd", 23)
		list(t, b, []string{"abc", "abcd"}, 23)
		if !slices.Equal(bytes, held) {
			t.Fatal("what was handed in was changed")
		}
	}
}

// The chapter's examples.
func TestExamples(t *testing.T) {
	if got := frame.Sum("123456789"); got != 3421780262 {
		t.Error(got)
	}
	got, e := frame.Frame("")
	if want := string([]byte{0, 0, 0, 0, 28, 223, 68, 33}); got != want || e != api.OK {
		t.Errorf("%x %d", got, e)
	}
	if got := frame.Sum("\x00\x00\x00\x00"); got != 0x2144DF1C {
		t.Error(got)
	}
}
