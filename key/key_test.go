package key_test

import (
	"fmt"
	"math"
	"slices"
	"strings"
	"testing"
	"unsafe"

	"hopper/api"
	"hopper/key"
	"hopper/value"
)

type row = []api.Value

var (
	null      = api.Value{}
	minusZero = math.Copysign(0, -1)
	infinity  = math.Inf(1)
	longest   = strings.Repeat("x", api.MaxText)
	zeros     = strings.Repeat("\x00", api.MaxText)
)

const (
	least, greatest = math.MinInt64, math.MaxInt64
	tiniest         = math.SmallestNonzeroFloat64
	largest         = math.MaxFloat64
)

func truth(n int64) api.Value       { return api.Value{Kind: api.VBool, N: n} }
func num(n int64) api.Value         { return api.Value{Kind: api.VInt, N: n} }
func float(x float64) api.Value     { return api.Value{Kind: api.VFloat, C: complex(x, 0)} }
func pair(re, im float64) api.Value { return api.Value{Kind: api.VPair, C: complex(re, im)} }
func text(s string) api.Value       { return api.Value{Kind: api.VText, S: s} }
func many(n int, v api.Value) row   { return slices.Repeat(row{v}, n) }

// kinds has one of each kind that may be.
func kinds() row {
	return row{null, truth(1), num(5), float(2.5), pair(1.5, -2), text("a\x00b")}
}

// notNumbers has NaNs of each sign, quiet and signalling, with several payloads.
func notNumbers() (list []uint64) {
	for _, bits := range []uint64{0x7ff8000000000001, 0x7ff8000000000000, 0x7ff0000000000001, 0x7fffffffffffffff, 0x7ff4000000000000} {
		list = append(list, bits, bits|1<<63)
	}
	return list
}

// same goes by the bits of floats, so that -0 is not +0.
func same(a, b api.Value) bool {
	return a.Kind == b.Kind && a.N == b.N && a.S == b.S &&
		math.Float64bits(real(a.C)) == math.Float64bits(real(b.C)) &&
		math.Float64bits(imag(a.C)) == math.Float64bits(imag(b.C))
}

func sameRow(a, b row) bool { return slices.EqualFunc(a, b, same) }

// keyOf is for rows that have a key.
func keyOf(r row) string {
	k, e := key.Encode(r)
	if e != api.OK {
		panic(e)
	}
	return k
}

func encode(t *testing.T, r row, want string) {
	t.Helper()
	if got, e := key.Encode(r); got != want || e != api.OK {
		t.Errorf("key of %.99s: %.99x %d, not %.99x", fmt.Sprint(r), got, e, want)
	}
	if back, f := key.Decode(want); !sameRow(back, r) || f != (api.Fault{}) {
		t.Errorf("row of %.99x: %.99s %v, not %.99s", want, fmt.Sprint(back), f, fmt.Sprint(r))
	}
}

func noKey(t *testing.T, r row, want api.Errno) {
	t.Helper()
	if k, e := key.Encode(r); k != "" || e != want {
		t.Errorf("key of %.99s: %.99x %d, not %d", fmt.Sprint(r), k, e, want)
	}
}

func refuse(t *testing.T, name, k string, want api.Errno) {
	t.Helper()
	if r, f := key.Decode(k); len(r) != 0 || f != (api.Fault{Code: want}) {
		t.Errorf("%s: row of %.99x: %.99s %v, not %d", name, k, fmt.Sprint(r), f, want)
	}
}

func noRow(t *testing.T, name, k string) {
	t.Helper()
	refuse(t, name, k, api.ErrForm)
}

// 5.1: the keys of rows.

func TestHowManyValues(t *testing.T) {
	encode(t, nil, "")
	encode(t, row{}, "")
	for count := 1; count <= api.MaxRow; count++ {
		encode(t, many(count, null), strings.Repeat("\x01", count))
		encode(t, many(count, text("a")), strings.Repeat("\x06a\x00\x01", count))
	}
	for _, v := range kinds() {
		one := keyOf(row{v})
		encode(t, many(api.MaxRow, v), strings.Repeat(one, api.MaxRow))
		noKey(t, many(api.MaxRow+1, v), api.ErrLong)
		noRow(t, "one too many", strings.Repeat(one, api.MaxRow+1))
		noRow(t, "many too many", strings.Repeat(one, 300))
	}
	encode(t, row{truth(1), text("a"), num(1), null}, "\x02\x01\x06a\x00\x01\x03\x80\x00\x00\x00\x00\x00\x00\x01\x01")
}

func TestNullsAndBools(t *testing.T) {
	encode(t, row{null}, "\x01")
	encode(t, row{truth(0)}, "\x02\x00")
	encode(t, row{truth(1)}, "\x02\x01")
	encode(t, row{truth(1), null, truth(0)}, "\x02\x01\x01\x02\x00")
}

func TestWholeNumbers(t *testing.T) {
	encode(t, row{num(least)}, "\x03\x00\x00\x00\x00\x00\x00\x00\x00")
	encode(t, row{num(least + 1)}, "\x03\x00\x00\x00\x00\x00\x00\x00\x01")
	encode(t, row{num(-256)}, "\x03\x7f\xff\xff\xff\xff\xff\xff\x00")
	encode(t, row{num(-1)}, "\x03\x7f\xff\xff\xff\xff\xff\xff\xff")
	encode(t, row{num(0)}, "\x03\x80\x00\x00\x00\x00\x00\x00\x00")
	encode(t, row{num(1)}, "\x03\x80\x00\x00\x00\x00\x00\x00\x01")
	encode(t, row{num(0x0102030405060708)}, "\x03\x81\x02\x03\x04\x05\x06\x07\x08")
	encode(t, row{num(greatest)}, "\x03\xff\xff\xff\xff\xff\xff\xff\xff")
}

// floats has floats and what stands in a key for them.
func floats() []struct {
	x     float64
	bytes string
} {
	return []struct {
		x     float64
		bytes string
	}{
		{-infinity, "\x00\x0f\xff\xff\xff\xff\xff\xff"},
		{-largest, "\x00\x10\x00\x00\x00\x00\x00\x00"},
		{-2, "\x3f\xff\xff\xff\xff\xff\xff\xff"},
		{-1.5, "\x40\x07\xff\xff\xff\xff\xff\xff"},
		{-tiniest, "\x7f\xff\xff\xff\xff\xff\xff\xfe"},
		{minusZero, "\x7f\xff\xff\xff\xff\xff\xff\xff"},
		{0, "\x80\x00\x00\x00\x00\x00\x00\x00"},
		{tiniest, "\x80\x00\x00\x00\x00\x00\x00\x01"},
		{1.5, "\xbf\xf8\x00\x00\x00\x00\x00\x00"},
		{2, "\xc0\x00\x00\x00\x00\x00\x00\x00"},
		{largest, "\xff\xef\xff\xff\xff\xff\xff\xff"},
		{infinity, "\xff\xf0\x00\x00\x00\x00\x00\x00"},
	}
}

func TestFloats(t *testing.T) {
	for _, a := range floats() {
		encode(t, row{float(a.x)}, "\x04"+a.bytes)
		encode(t, row{null, float(a.x), null}, "\x01\x04"+a.bytes+"\x01")
	}
}

func TestPairs(t *testing.T) {
	for _, a := range floats() {
		for _, b := range floats() {
			encode(t, row{pair(a.x, b.x)}, "\x05"+a.bytes+b.bytes)
		}
	}
}

func TestTexts(t *testing.T) {
	for _, x := range []struct{ s, bytes string }{
		{"", "\x06\x00\x01"},
		{"a", "\x06a\x00\x01"},
		{"\x01", "\x06\x01\x00\x01"},
		{"\xff", "\x06\xff\x00\x01"},
		{"\xff\xfe\x80", "\x06\xff\xfe\x80\x00\x01"},
		{"\x00", "\x06\x00\xff\x00\x01"},
		{"\x00a", "\x06\x00\xffa\x00\x01"},
		{"a\x00b", "\x06a\x00\xffb\x00\x01"},
		{"a\x00", "\x06a\x00\xff\x00\x01"},
		{"\x00\x00", "\x06\x00\xff\x00\xff\x00\x01"},
		{"\x00\x01", "\x06\x00\xff\x01\x00\x01"},
		{"\x00\xff", "\x06\x00\xff\xff\x00\x01"},
		{"\x01\x00", "\x06\x01\x00\xff\x00\x01"},
		{"\xff\x00", "\x06\xff\x00\xff\x00\x01"},
		{"\u00e9", "\x06\xc3\xa9\x00\x01"},
		{longest[1:], "\x06" + longest[1:] + "\x00\x01"},
		{longest, "\x06" + longest + "\x00\x01"},
		{zeros, "\x06" + strings.Repeat("\x00\xff", api.MaxText) + "\x00\x01"},
	} {
		encode(t, row{text(x.s)}, x.bytes)
		encode(t, row{text(x.s), null, text(x.s)}, x.bytes+"\x01"+x.bytes)
	}
	for b := 1; b < 256; b++ {
		s := string([]byte{byte(b)})
		encode(t, row{text(s)}, "\x06"+s+"\x00\x01")
		encode(t, row{text("\x00" + s)}, "\x06\x00\xff"+s+"\x00\x01")
	}
}

func TestTextsTooLong(t *testing.T) {
	noKey(t, row{text(longest + "x")}, api.ErrValue)
	noKey(t, row{text(zeros + "\x00")}, api.ErrValue)
	for _, s := range []string{longest + "x", longest + longest, strings.Repeat("x", api.MaxBytes-6)} {
		noRow(t, "a text", "\x06"+s+"\x00\x01")
		noRow(t, "a text, behind another", "\x06\x00\x01\x06"+s+"\x00\x01")
	}
	noRow(t, "bytes 0", "\x06"+strings.Repeat("\x00\xff", api.MaxText+1)+"\x00\x01")
	noRow(t, "a byte 0 at the end", "\x06"+longest+"\x00\xff\x00\x01")
}

// 5.1: what chapter 4's Check refuses, each way, and in its order.
func TestRowsThatMayNotBe(t *testing.T) {
	wrong := row{
		{Kind: -1}, {Kind: 6}, {Kind: 255}, {Kind: 256}, {Kind: 1<<32 + 2}, {Kind: math.MinInt}, {Kind: math.MaxInt},
		truth(-1), truth(2), truth(256), truth(257), text(longest + "x"),
		{N: 1}, {Kind: api.VFloat, N: 1}, {Kind: api.VPair, N: 1}, {Kind: api.VText, N: 1},
		{C: 1}, {C: 1i}, {Kind: api.VBool, C: 1}, {Kind: api.VInt, C: complex(minusZero, 0)}, {Kind: api.VText, C: complex(0, minusZero)},
		{Kind: api.VFloat, C: 1i}, {Kind: api.VFloat, C: complex(1, minusZero)},
		{S: "a"}, {Kind: api.VBool, S: "a"}, {Kind: api.VInt, S: "a"}, {Kind: api.VFloat, S: "a"}, {Kind: api.VPair, S: "a"},
	}
	for _, bits := range notNumbers() {
		x := math.Float64frombits(bits)
		wrong = append(wrong, float(x), pair(x, 0), pair(0, x), pair(x, x))
	}
	for _, v := range wrong {
		noKey(t, row{v}, api.ErrValue)
		noKey(t, row{null, v, null}, api.ErrValue)
		noKey(t, append(many(api.MaxRow-1, text("a")), v), api.ErrValue)
		noKey(t, append(many(api.MaxRow, text("a")), v), api.ErrLong)
		noKey(t, append(row{v}, many(api.MaxRow, null)...), api.ErrLong)
		// A row of which the values alone are wrong is told so, however long its key would be.
		noKey(t, append(many(api.MaxRow-1, text(zeros)), v), api.ErrValue)
	}
}

// ofLength answers a row whose key has so many bytes: one of MaxRow texts, nearly all of bytes 0.
func ofLength(length int) row {
	r := many(api.MaxRow, text(zeros))
	over := len(zeros)*2*api.MaxRow + 3*api.MaxRow - length
	r[api.MaxRow/2] = text(strings.Repeat("x", over) + zeros[over:])
	return r
}

// 5.1: a key of just as many bytes as may be, and of more.
func TestHowManyBytesOfAKey(t *testing.T) {
	for _, length := range []int{api.MaxBytes - 1, api.MaxBytes} {
		r := ofLength(length)
		k, e := key.Encode(r)
		if len(k) != length || e != api.OK {
			t.Fatalf("%d bytes, not %d: %d", len(k), length, e)
		}
		if back, f := key.Decode(k); !sameRow(back, r) || f != (api.Fault{}) {
			t.Errorf("of %d bytes: %v", length, f)
		}
	}
	noKey(t, ofLength(api.MaxBytes+1), api.ErrLong)
	noKey(t, ofLength(api.MaxBytes+2), api.ErrLong)
	noKey(t, many(api.MaxRow, text(zeros)), api.ErrLong)
	encode(t, many(api.MaxRow, text(longest)), strings.Repeat("\x06"+longest+"\x00\x01", api.MaxRow))
}

// 5.1: bytes that are no key.

func TestDecodeTooShort(t *testing.T) {
	for _, v := range append(kinds(), text(""), text("\x00"), text("ab\x00\x00"), pair(minusZero, infinity), text(longest[:300]), num(least)) {
		one := keyOf(row{v})
		for cut := 1; cut < len(one); cut++ {
			noRow(t, "cut", one[:cut])
			noRow(t, "cut, second", "\x01"+one[:cut])
			noRow(t, "cut, second and third", one+one+one[:cut])
			noRow(t, "cut, last", strings.Repeat("\x01", api.MaxRow-1)+one[:cut])
		}
	}
}

// Cut where a value ends a row's key is one of a row still, and nowhere else.
func TestDecodeCutKeys(t *testing.T) {
	r := append(kinds(), kinds()...)
	whole := keyOf(r)
	rows := 0
	for cut := range len(whole) + 1 {
		back, f := key.Decode(whole[:cut])
		if f == (api.Fault{}) {
			if !sameRow(back, r[:rows]) {
				t.Errorf("cut at %d: %v", cut, back)
			}
			rows++
			continue
		}
		noRow(t, "cut", whole[:cut])
	}
	if rows != len(r)+1 {
		t.Errorf("%d rows", rows)
	}
}

func TestDecodeOneByteMore(t *testing.T) {
	for _, v := range kinds() {
		one := keyOf(row{v})
		encode(t, row{v, null}, one+"\x01")
		noRow(t, "a byte 0 more", one+"\x00")
		for more := 2; more < 256; more++ {
			noRow(t, "one byte more", one+string([]byte{byte(more)}))
		}
	}
}

func TestDecodeFirstBytes(t *testing.T) {
	for b := range 256 {
		if b >= 1 && b <= 6 {
			continue
		}
		for length := range 20 {
			for _, fill := range []string{"\x00", "\x01"} {
				behind := strings.Repeat(fill, length)
				noRow(t, "a first byte", string([]byte{byte(b)})+behind)
				noRow(t, "a first byte of the second", string([]byte{1, byte(b)})+behind)
			}
		}
		noRow(t, "like a text", string([]byte{byte(b)})+"a\x00\x01")
		noRow(t, "the last of all", strings.Repeat("\x01", api.MaxRow-1)+string([]byte{byte(b)}))
	}
}

func TestDecodeBools(t *testing.T) {
	for b := 2; b < 256; b++ {
		noRow(t, "a bool", string([]byte{2, byte(b)}))
		noRow(t, "a bool, first", string([]byte{2, byte(b), 1}))
		noRow(t, "a bool, second", string([]byte{1, 2, byte(b)}))
	}
}

// turned answers what would stand for a float of these bits.
func turned(bits uint64) string {
	if bits < 1<<63 {
		bits += 1 << 63
	} else {
		bits = math.MaxUint64 - bits
	}
	out := make([]byte, 8)
	for i := range out {
		out[7-i] = byte(bits >> (8 * i))
	}
	return string(out)
}

func TestDecodeNotNumbers(t *testing.T) {
	zero := turned(0)
	for _, x := range notNumbers() {
		bits := turned(x)
		noRow(t, "a float", "\x04"+bits)
		noRow(t, "a real part", "\x05"+bits+zero)
		noRow(t, "an imaginary part", "\x05"+zero+bits)
		noRow(t, "both", "\x05"+bits+bits)
		noRow(t, "ahead of others", "\x04"+bits+"\x01")
		noRow(t, "behind others", "\x01\x04"+bits)
		if f := math.Float64frombits(x); f == f {
			t.Errorf("%x is no example", x)
		}
	}
	// The nearest to them that are numbers are the infinities.
	encode(t, row{float(infinity)}, "\x04"+turned(0x7ff0000000000000))
	encode(t, row{float(-infinity)}, "\x04"+turned(0xfff0000000000000))
	noRow(t, "the least bytes", "\x04\x00\x00\x00\x00\x00\x00\x00\x00")
	noRow(t, "the greatest bytes", "\x04\xff\xff\xff\xff\xff\xff\xff\xff")
}

func TestDecodeTexts(t *testing.T) {
	noRow(t, "no end", "\x06")
	noRow(t, "no end", "\x06a")
	noRow(t, "half an end", "\x06a\x00")
	noRow(t, "a byte 0 and no end", "\x06a\x00\xff")
	noRow(t, "an end that is none", "\x06\x01\x01")
	noRow(t, "no end, as long as may be", "\x06"+longest)
	noRow(t, "no end, as many bytes as may be", "\x06"+strings.Repeat("x", api.MaxBytes-1))
	noRow(t, "no end, of bytes 0", "\x06"+strings.Repeat("\x00\xff", api.MaxBytes/2-1))
	noRow(t, "two ends", "\x06a\x00\x01\x00\x01")
	for b := range 256 {
		if b == 1 || b == 255 {
			continue
		}
		s := string([]byte{byte(b)})
		noRow(t, "behind a byte 0", "\x06\x00"+s)
		noRow(t, "behind a byte 0, with an end", "\x06\x00"+s+"\x00\x01")
		noRow(t, "behind a byte 0, behind others", "\x06a\x00"+s+"\x00\x01")
		noRow(t, "behind a second byte 0", "\x06\x00\xff\x00"+s+"\x00\x01")
		noRow(t, "behind a byte 0, with values behind", "\x06\x00"+s+"\x01\x01")
	}
}

func TestDecodeHowManyBytes(t *testing.T) {
	for _, begin := range []string{"", "\x01", "\x00", "\x06", "\x03\x80", "\x06a\x00\x01", keyOf(kinds()), keyOf(ofLength(api.MaxBytes))} {
		for _, fill := range []string{"\x00", "\x01", "\xff"} {
			k := begin + strings.Repeat(fill, api.MaxBytes-len(begin))
			if len(begin) < api.MaxBytes {
				noRow(t, "as many as may be", k)
				noRow(t, "one less", k[:len(k)-1])
			}
			for _, more := range []int{1, 2, api.MaxBytes} {
				refuse(t, "too many", k+strings.Repeat(fill, more), api.ErrLong)
			}
		}
	}
}

// 5.2: the next text.

func TestNext(t *testing.T) {
	for _, k := range []string{"", "\x00", "ab", "\xff", "\x00\x00", "a\x00", keyOf(kinds()), longest, zeros, strings.Repeat("\xff", api.MaxBytes-1), strings.Repeat("\x00", api.MaxBytes-1), strings.Repeat("x", api.MaxBytes-2)} {
		n, e := key.Next(k)
		if e != api.OK || len(n) != len(k)+1 || !strings.HasPrefix(n, k) || n[len(k)] != 0 {
			t.Errorf("next of %.99x: %.99x %d", k, n, e)
		}
	}
	for _, length := range []int{api.MaxBytes, api.MaxBytes + 1, 2 * api.MaxBytes} {
		for _, fill := range []string{"\x00", "x", "\xff"} {
			if n, e := key.Next(strings.Repeat(fill, length)); n != "" || e != api.ErrLong {
				t.Errorf("next of %d bytes: %.99x %d", length, n, e)
			}
		}
	}
}

// Nothing stands between a text and the next one.
func TestNextIsTheLeast(t *testing.T) {
	var texts []string
	for _, a := range []string{"", "\x00", "\x01", "a", "\xff"} {
		for _, b := range []string{"", "\x00", "\x01", "a", "\xff"} {
			for _, c := range []string{"", "\x00", "\x01", "\xff"} {
				texts = append(texts, a+b+c)
			}
		}
	}
	for _, k := range texts {
		n, e := key.Next(k)
		if e != api.OK || n <= k {
			t.Fatalf("next of %x: %x %d", k, n, e)
		}
		for _, other := range texts {
			if other > k && other < n {
				t.Errorf("%x stands between %x and %x", other, k, n)
			}
		}
	}
}

// 5.3: the order.

// inOrder has rows, each ahead of all behind it.
func inOrder() []row {
	list := []row{nil, {null}, {null, null}, {null, null, null}, {null, truth(0)}, {null, text("")}, {truth(0)}, {truth(0), null}, {truth(0), truth(1)}, {truth(1)}, {truth(1), truth(0)}}
	for _, n := range []int64{least, least + 1, -257, -256, -255, -1, 0, 1, 255, 256, 257, greatest - 1, greatest} {
		list = append(list, row{num(n)}, row{num(n), null}, row{num(n), text("a")}, row{num(n), text("a"), null})
	}
	for _, a := range floats() {
		list = append(list, row{float(a.x)}, row{float(a.x), float(-infinity)})
	}
	for _, a := range floats() {
		for _, b := range floats() {
			list = append(list, row{pair(a.x, b.x)}, row{pair(a.x, b.x), null})
		}
	}
	for _, s := range []string{"", "\x00", "\x00\x00", "\x00\x00\x01", "\x00\x01", "\x00\xfe", "\x00\xff", "\x00\xff\x00", "\x01", "\x01\x00", "\x01\xff", "A", "AB", "B", "a", "a\x00", "a\x00\x00", "a\x00\x01", "a\x00b", "a\x00\xff", "a\x01", "ab", "b", longest[1:], longest, "\x7f", "\x80", "\xc3\xa9", "\xff", "\xff\x00", "\xff\xff"} {
		list = append(list, row{text(s)}, row{text(s), null}, row{text(s), null, text("\xff")}, row{text(s), text("")}, row{text(s), text("\xff")})
	}
	return list
}

func TestOrder(t *testing.T) {
	list := inOrder()
	var keys []string
	for _, r := range list {
		keys = append(keys, keyOf(r))
	}
	for i, a := range list {
		for j, b := range list {
			want, e := value.Compare(a, b)
			if e != api.OK || (want < 0) != (i < j) || (want > 0) != (i > j) {
				t.Fatalf("%d %.99s and %d %.99s are no example: %d %d", i, fmt.Sprint(a), j, fmt.Sprint(b), want, e)
			}
			if got := strings.Compare(keys[i], keys[j]); got != want {
				t.Errorf("keys of %.99s and %.99s: %d, not %d", fmt.Sprint(a), fmt.Sprint(b), got, want)
			}
			begins := len(b) <= len(a) && sameRow(a[:min(len(b), len(a))], b)
			if got := strings.HasPrefix(keys[i], keys[j]); got != begins {
				t.Errorf("the key of %.99s begins with that of %.99s: %t", fmt.Sprint(a), fmt.Sprint(b), got)
			}
		}
	}
}

// A row's key, the next text, and those of the rows that begin with that row: they stand one behind the other.
func TestOrderOfNext(t *testing.T) {
	for _, r := range inOrder() {
		k := keyOf(r)
		n, e := key.Next(k)
		if e != api.OK || n <= k {
			t.Fatalf("next of %.99x: %.99x %d", k, n, e)
		}
		noRow(t, "the next", n)
		for _, v := range kinds() {
			if longer := keyOf(append(slices.Clone(r), v)); longer <= n {
				t.Errorf("%.99x does not stand behind %.99x", longer, n)
			}
		}
	}
}

// R4: what is handed in stays as it is, with what lies behind it, and answers are new memory.

func TestHandedInStays(t *testing.T) {
	behind := api.Value{Kind: 77, N: 7, C: complex(math.NaN(), 7), S: "behind"}
	full := append(kinds(), behind, behind)
	before := slices.Clone(full)
	k, e := key.Encode(full[:len(kinds())])
	if e != api.OK || k != keyOf(kinds()) {
		t.Errorf("%x %d", k, e)
	}
	noKey(t, full, api.ErrValue)
	if !slices.EqualFunc(full, before, same) {
		t.Errorf("%v, not %v", full, before)
	}
}

func shared(a, b string) bool {
	if a == "" || b == "" {
		return false
	}
	first, second := uintptr(unsafe.Pointer(unsafe.StringData(a))), uintptr(unsafe.Pointer(unsafe.StringData(b)))
	return first < second+uintptr(len(b)) && second < first+uintptr(len(a))
}

func TestAnswersAreNew(t *testing.T) {
	r := row{text("first"), text("second"), text("first")}
	k := keyOf(r)
	a, _ := key.Decode(k)
	b, _ := key.Decode(k)
	if !sameRow(a, r) || !sameRow(b, r) {
		t.Fatal(a, b)
	}
	for i := range a {
		if shared(a[i].S, k) || shared(a[i].S, b[i].S) || shared(a[i].S, a[(i+1)%3].S) {
			t.Errorf("text %d of %v shares memory", i, a)
		}
	}
	spare := a[:cap(a)]
	for i := range spare {
		spare[i] = num(7)
	}
	if again, f := key.Decode(k); !sameRow(b, r) || !sameRow(again, r) || f != (api.Fault{}) {
		t.Error(b, again, f)
	}
	if n, e := key.Next(k); e != api.OK || shared(n, k) {
		t.Error("the next one shares memory", e)
	}
	if shared(k, keyOf(r)) || shared(k, r[0].S) {
		t.Error("a key shares memory")
	}
}

// The chapter's examples.
func TestExamples(t *testing.T) {
	encode(t, row{num(5)}, "\x03\x80\x00\x00\x00\x00\x00\x00\x05")
	encode(t, row{num(-1)}, "\x03\x7f\xff\xff\xff\xff\xff\xff\xff")
	encode(t, row{text("a\x00b")}, "\x06a\x00\xffb\x00\x01")
	encode(t, nil, "")
}
