package value_test

import (
	"fmt"
	"math"
	"slices"
	"strings"
	"testing"
	"unsafe"

	"hopper/api"
	"hopper/value"
)

type row = []api.Value

var (
	null      = api.Value{}
	minusZero = math.Copysign(0, -1)
	infinity  = math.Inf(1)
	longest   = strings.Repeat("x", api.MaxText)
)

func truth(n int64) api.Value       { return api.Value{Kind: api.VBool, N: n} }
func num(n int64) api.Value         { return api.Value{Kind: api.VInt, N: n} }
func float(x float64) api.Value     { return api.Value{Kind: api.VFloat, C: complex(x, 0)} }
func pair(re, im float64) api.Value { return api.Value{Kind: api.VPair, C: complex(re, im)} }
func text(s string) api.Value       { return api.Value{Kind: api.VText, S: s} }
func many(n int, v api.Value) row   { return slices.Repeat(row{v}, n) }

// bytesOf is for rows that may be.
func bytesOf(r row) string {
	s, e := value.Encode(r)
	if e != api.OK {
		panic(e)
	}
	return s
}

// notNumbers has NaNs of each sign, quiet and signalling, with several payloads.
func notNumbers() (list []float64) {
	for _, bits := range []uint64{0x7ff8000000000001, 0x7ff8000000000000, 0x7ff0000000000001, 0x7fffffffffffffff, 0x7ff4000000000000} {
		list = append(list, math.Float64frombits(bits), math.Float64frombits(bits|1<<63))
	}
	return list
}

// same goes by the bits of floats, so that -0 is not +0.
func same(a, b api.Value) bool {
	return a.Kind == b.Kind && a.N == b.N && a.S == b.S &&
		math.Float64bits(real(a.C)) == math.Float64bits(real(b.C)) &&
		math.Float64bits(imag(a.C)) == math.Float64bits(imag(b.C))
}

func sameRow(a, b row) bool { return slices.EqualFunc(a, b, same) }

// kinds has one of each kind that may be.
func kinds() row {
	return row{null, truth(1), num(5), float(2.5), pair(1.5, -2), text("ab")}
}

func check(t *testing.T, name string, r row, at int, want api.Errno) {
	t.Helper()
	if got, e := value.Check(r); got != at || e != want {
		t.Errorf("%s: %d %d, not %d %d", name, got, e, at, want)
	}
}

// may looks at what all calls say of whether a value may be.
func may(t *testing.T, v api.Value, ok bool) {
	t.Helper()
	name := fmt.Sprintf("%+v", v)
	if len(name) > 100 {
		name = name[:100]
	}
	rows := []row{{v}, {null, text("a"), v, null}, append(many(api.MaxRow-1, num(1)), v)}
	for i, at := range []int{0, 2, api.MaxRow - 1} {
		want := api.OK
		if !ok {
			want = api.ErrValue
		} else {
			at = 0
		}
		check(t, name, rows[i], at, want)
		if c, e := value.Compare(rows[i], rows[i]); c != 0 || e != want {
			t.Errorf("compare of %s: %d %d, not %d", name, c, e, want)
		}
		if c, e := value.Compare(nil, rows[i]); e != want || !ok && c != 0 {
			t.Errorf("compare of nothing and %s: %d %d, not %d", name, c, e, want)
		}
		if s, e := value.Encode(rows[i]); e != want || !ok && s != "" {
			t.Errorf("encode of %s: %q %d, not %d", name, s, e, want)
		}
	}
	for _, other := range kinds() {
		mayOf(t, name, v, other, ok)
		mayOf(t, name, other, v, ok)
	}
}

func mayOf(t *testing.T, name string, a, b api.Value, ok bool) {
	t.Helper()
	sum, e := value.Add(a, b)
	product, f := value.Times(a, b)
	if (e == api.ErrValue) == ok || (f == api.ErrValue) == ok || !ok && (!same(sum, null) || !same(product, null)) {
		t.Errorf("sum and product of %s: %v %d, %v %d", name, sum, e, product, f)
	}
}

// 4.1: how many values.

func TestCheckHowMany(t *testing.T) {
	check(t, "nil", nil, 0, api.OK)
	check(t, "no value", row{}, 0, api.OK)
	for _, v := range kinds() {
		check(t, "one", row{v}, 0, api.OK)
		check(t, "as many as may be", many(api.MaxRow, v), 0, api.OK)
		check(t, "one more", many(api.MaxRow+1, v), 0, api.ErrLong)
	}
	check(t, "many more", make(row, 1000), 0, api.ErrLong)
}

func TestCheckOrderOfErrors(t *testing.T) {
	wrong := truth(2)
	check(t, "too many, the first wrong", append(row{wrong}, many(api.MaxRow, null)...), 0, api.ErrLong)
	check(t, "too many, all wrong", many(api.MaxRow+1, wrong), 0, api.ErrLong)
	check(t, "too many, the third wrong", append(row{null, null, wrong}, many(api.MaxRow, null)...), 0, api.ErrLong)
	for at := range api.MaxRow {
		r := many(api.MaxRow, num(1))
		r[at] = wrong
		check(t, "one wrong", r, at, api.ErrValue)
		check(t, "that one and those behind it", append(slices.Clone(r[:at]), many(api.MaxRow-at, wrong)...), at, api.ErrValue)
	}
}

// 4.1: which values may be.

func TestKinds(t *testing.T) {
	for _, v := range kinds() {
		may(t, v, true)
	}
	for kind := api.VNull; kind <= api.VText; kind++ {
		may(t, api.Value{Kind: kind}, true)
	}
	for _, kind := range []int{math.MinInt, -256, -5, -1, 6, 7, 255, 256, 257, 1 << 32, 1<<32 + 2, math.MaxInt} {
		may(t, api.Value{Kind: kind}, false)
		may(t, api.Value{Kind: kind, N: 1}, false)
		may(t, api.Value{Kind: kind, S: "a"}, false)
	}
}

func TestBools(t *testing.T) {
	may(t, truth(0), true)
	may(t, truth(1), true)
	for _, n := range []int64{math.MinInt64, -256, -1, 2, 3, 256, 257, 1 << 32, math.MaxInt64} {
		may(t, truth(n), false)
	}
}

func TestWholeNumbers(t *testing.T) {
	for _, n := range []int64{math.MinInt64, math.MinInt64 + 1, -1, 0, 1, math.MaxInt64 - 1, math.MaxInt64} {
		may(t, num(n), true)
	}
}

func TestFloatsAndPairs(t *testing.T) {
	list := []float64{-infinity, -math.MaxFloat64, -1.5, -math.SmallestNonzeroFloat64, minusZero, 0, math.SmallestNonzeroFloat64, 1, math.MaxFloat64, infinity}
	for _, x := range list {
		may(t, float(x), true)
		for _, y := range list {
			may(t, pair(x, y), true)
		}
	}
}

func TestTexts(t *testing.T) {
	for _, s := range []string{"", "\x00", "a", "\xff\xfe", "\u00e9", longest[:api.MaxText-1], longest} {
		may(t, text(s), true)
	}
	may(t, text(longest+"x"), false)
	may(t, text(longest+longest), false)
}

// A field that is not of the kind is zero, in all its bits.
func TestOtherFields(t *testing.T) {
	floats := append(notNumbers(), minusZero, 1, -1, math.SmallestNonzeroFloat64, infinity, -infinity)
	for _, v := range kinds() {
		if v.Kind != api.VBool && v.Kind != api.VInt {
			for _, n := range []int64{math.MinInt64, -1, 1, 1 << 32, math.MaxInt64} {
				w := v
				w.N = n
				may(t, w, false)
			}
		}
		for _, x := range floats {
			w := v
			if v.Kind != api.VPair && v.Kind != api.VFloat {
				w.C = complex(x, 0)
				may(t, w, false)
				w.C = complex(x, x)
				may(t, w, false)
			}
			if v.Kind != api.VPair {
				w.C = complex(real(v.C), x)
				may(t, w, false)
			}
		}
		if v.Kind != api.VText {
			for _, s := range []string{"a", "\x00", longest, longest + "x"} {
				w := v
				w.S = s
				may(t, w, false)
			}
		}
	}
}

func TestNotNumbers(t *testing.T) {
	for _, x := range notNumbers() {
		may(t, float(x), false)
		for _, y := range []float64{0, minusZero, 1, -infinity, x} {
			may(t, pair(x, y), false)
			may(t, pair(y, x), false)
		}
	}
}

// 4.1: the order.

// inOrder has rows, each ahead of all behind it.
func inOrder() []row {
	list := []row{nil, {null}, {null, null}, {null, text("")}, {truth(0)}, {truth(0), truth(1)}, {truth(1)}, {truth(1), truth(0)}}
	for _, n := range []int64{math.MinInt64, math.MinInt64 + 1, -256, -1, 0, 1, 255, 256, math.MaxInt64 - 1, math.MaxInt64} {
		list = append(list, row{num(n)})
	}
	list = append(list, row{num(math.MaxInt64), null}, row{num(math.MaxInt64), text("a")}, row{num(math.MaxInt64), text("a"), null})
	floats := []float64{-infinity, -math.MaxFloat64, -2, -1.5, -math.SmallestNonzeroFloat64, minusZero, 0, math.SmallestNonzeroFloat64, 1.5, 2, math.MaxFloat64, infinity}
	for _, x := range floats {
		list = append(list, row{float(x)})
	}
	list = append(list, row{float(infinity), float(-infinity)})
	for _, x := range floats {
		for _, y := range floats {
			list = append(list, row{pair(x, y)})
		}
	}
	for _, s := range []string{"", "\x00", "\x00\x00", "\x00\x01", "A", "AB", "B", "a", "ab", "b", longest[:api.MaxText-1], longest, "\x7f", "\x80", "\xc3\xa9", "\xff", "\xff\x00"} {
		list = append(list, row{text(s)})
	}
	return list
}

func TestOrder(t *testing.T) {
	list := inOrder()
	for i, a := range list {
		for k, b := range list {
			want := 0
			if i < k {
				want = -1
			}
			if i > k {
				want = 1
			}
			if c, e := value.Compare(a, b); c != want || e != api.OK {
				t.Errorf("%d %.100s and %d %.100s: %d %d", i, fmt.Sprint(a), k, fmt.Sprint(b), c, e)
			}
		}
	}
}

func TestOrderOfTheLastValue(t *testing.T) {
	for length := range api.MaxRow {
		for _, begin := range kinds() {
			a := append(many(length, begin), float(minusZero))
			b := append(many(length, begin), float(0))
			for _, x := range []struct {
				a, b row
				want int
			}{{a, b, -1}, {b, a, 1}, {a, slices.Clone(a), 0}, {a[:length], a, -1}, {a, a[:length], 1}} {
				if c, e := value.Compare(x.a, x.b); c != x.want || e != api.OK {
					t.Errorf("%v and %v: %d %d", x.a, x.b, c, e)
				}
			}
		}
	}
}

func TestCompareErrors(t *testing.T) {
	long, wrong, good := many(api.MaxRow+1, null), row{null, truth(2)}, row{num(7)}
	for _, x := range []struct {
		a, b row
		want api.Errno
	}{
		{long, good, api.ErrLong}, {good, long, api.ErrLong}, {wrong, good, api.ErrValue}, {good, wrong, api.ErrValue},
		{long, wrong, api.ErrLong}, {wrong, long, api.ErrValue}, {long, long, api.ErrLong}, {wrong, wrong, api.ErrValue},
		{nil, wrong, api.ErrValue}, {long, nil, api.ErrLong}, {many(api.MaxRow+1, truth(2)), wrong, api.ErrLong},
	} {
		if c, e := value.Compare(x.a, x.b); c != 0 || e != x.want {
			t.Errorf("%v and %v: %d %d, not %d", x.a, x.b, c, e, x.want)
		}
	}
}

// 4.2 and 4.3: sums and products.

func sum(t *testing.T, a, b, want api.Value, e api.Errno) {
	t.Helper()
	if got, f := value.Add(a, b); !same(got, want) || f != e {
		t.Errorf("sum of %.99s and %.99s: %.99s %d, not %.99s %d", fmt.Sprint(a), fmt.Sprint(b), fmt.Sprint(got), f, fmt.Sprint(want), e)
	}
}

func product(t *testing.T, a, b, want api.Value, e api.Errno) {
	t.Helper()
	if got, f := value.Times(a, b); !same(got, want) || f != e {
		t.Errorf("product of %.99s and %.99s: %.99s %d, not %.99s %d", fmt.Sprint(a), fmt.Sprint(b), fmt.Sprint(got), f, fmt.Sprint(want), e)
	}
}

func TestUnlikeKinds(t *testing.T) {
	for i, a := range kinds() {
		for k, b := range kinds() {
			if i != k {
				sum(t, a, b, null, api.ErrKind)
				product(t, a, b, null, api.ErrKind)
			}
		}
	}
}

func TestKindsWithoutSums(t *testing.T) {
	for _, a := range []api.Value{null, truth(0), truth(1)} {
		for _, b := range []api.Value{null, truth(0), truth(1)} {
			sum(t, a, b, null, api.ErrKind)
			product(t, a, b, null, api.ErrKind)
		}
	}
	product(t, text(""), text(""), null, api.ErrKind)
	product(t, text("a"), text("b"), null, api.ErrKind)
	product(t, text(longest), text("b"), null, api.ErrKind)
}

func TestSumsOrderOfErrors(t *testing.T) {
	wrong := api.Value{Kind: api.VText, N: 1}
	for _, other := range append(kinds(), text(longest), num(math.MaxInt64), float(infinity)) {
		for _, w := range []api.Value{wrong, truth(2), {Kind: 6}, text(longest + "x"), float(math.NaN())} {
			for _, f := range []func(*testing.T, api.Value, api.Value, api.Value, api.Errno){sum, product} {
				f(t, w, other, null, api.ErrValue)
				f(t, other, w, null, api.ErrValue)
				f(t, w, wrong, null, api.ErrValue)
			}
		}
	}
}

func TestSumsOfWholeNumbers(t *testing.T) {
	const least, greatest = math.MinInt64, math.MaxInt64
	for _, x := range []struct{ a, b, want int64 }{
		{0, 0, 0}, {3, 4, 7}, {-3, 4, 1}, {3, -4, -1}, {greatest, 0, greatest}, {greatest - 1, 1, greatest}, {greatest, -1, greatest - 1},
		{least, 0, least}, {least + 1, -1, least}, {least, greatest, -1}, {1 << 62, 1<<62 - 1, greatest}, {-1 << 62, -1 << 62, least}, {least, 1, least + 1},
	} {
		sum(t, num(x.a), num(x.b), num(x.want), api.OK)
		sum(t, num(x.b), num(x.a), num(x.want), api.OK)
	}
	for _, x := range [][2]int64{{greatest, 1}, {greatest, greatest}, {1 << 62, 1 << 62}, {least, -1}, {least, least}, {-1 << 62, -1<<62 - 1}} {
		sum(t, num(x[0]), num(x[1]), null, api.ErrRange)
		sum(t, num(x[1]), num(x[0]), null, api.ErrRange)
	}
}

func TestProductsOfWholeNumbers(t *testing.T) {
	const least, greatest = math.MinInt64, math.MaxInt64
	for _, x := range []struct{ a, b, want int64 }{
		{0, 0, 0}, {3, 4, 12}, {-3, 4, -12}, {-3, -4, 12}, {0, least, 0}, {0, greatest, 0}, {1, least, least}, {1, greatest, greatest},
		{-1, greatest, -greatest}, {-1, least + 1, greatest}, {2, -1 << 62, least}, {-2, 1 << 62, least}, {2, 1<<62 - 1, greatest - 1},
		{1 << 31, -1 << 32, least}, {3037000499, 3037000499, 9223372030926249001}, {7, 1317624576693539401, greatest}, {-7, 1317624576693539401, -greatest}, {-1, -1, 1},
	} {
		product(t, num(x.a), num(x.b), num(x.want), api.OK)
		product(t, num(x.b), num(x.a), num(x.want), api.OK)
	}
	for _, x := range [][2]int64{
		{least, -1}, {least, least}, {greatest, greatest}, {least, greatest}, {2, 1 << 62}, {-2, -1 << 62}, {1 << 32, 1 << 31}, {1 << 32, 1 << 32},
		{3037000500, 3037000500}, {7, 1317624576693539402}, {-7, 1317624576693539402}, {least, 2}, {greatest, 2}, {-3, -1 << 62}, {4, 1 << 62},
	} {
		product(t, num(x[0]), num(x[1]), null, api.ErrRange)
		product(t, num(x[1]), num(x[0]), null, api.ErrRange)
	}
}

func TestSumsOfTexts(t *testing.T) {
	sum(t, text("a"), text("b"), text("ab"), api.OK)
	sum(t, text("b"), text("a"), text("ba"), api.OK)
	sum(t, text(""), text(""), text(""), api.OK)
	sum(t, text("ab"), text(""), text("ab"), api.OK)
	sum(t, text(""), text("\x00\xff"), text("\x00\xff"), api.OK)
	sum(t, text(longest), text(""), text(longest), api.OK)
	sum(t, text(""), text(longest), text(longest), api.OK)
	sum(t, text(longest[1:]), text("y"), text(longest[1:]+"y"), api.OK)
	sum(t, text(longest[:api.MaxText/2]), text(longest[:api.MaxText/2]), text(longest), api.OK)
	sum(t, text(longest), text("y"), null, api.ErrLong)
	sum(t, text("y"), text(longest), null, api.ErrLong)
	sum(t, text(longest[:api.MaxText/2]), text(longest[:api.MaxText/2+1]), null, api.ErrLong)
	sum(t, text(longest), text(longest), null, api.ErrLong)
}

func TestSumsOfFloats(t *testing.T) {
	for _, x := range []struct{ a, b, want float64 }{
		{1.5, 2.25, 3.75}, {0.1, 0.2, 0.30000000000000004}, {1, -1, 0}, {0, 0, 0}, {minusZero, minusZero, minusZero}, {0, minusZero, 0},
		{1e16, 1, 1e16}, {infinity, 1, infinity}, {infinity, infinity, infinity}, {-infinity, -infinity, -infinity}, {-infinity, math.MaxFloat64, -infinity},
		{math.MaxFloat64, math.MaxFloat64, infinity}, {math.SmallestNonzeroFloat64, math.SmallestNonzeroFloat64, 2 * math.SmallestNonzeroFloat64},
	} {
		sum(t, float(x.a), float(x.b), float(x.want), api.OK)
		sum(t, float(x.b), float(x.a), float(x.want), api.OK)
	}
	sum(t, float(infinity), float(-infinity), null, api.ErrRange)
	sum(t, float(-infinity), float(infinity), null, api.ErrRange)
}

func TestProductsOfFloats(t *testing.T) {
	for _, x := range []struct{ a, b, want float64 }{
		{1.5, 2, 3}, {0.1, 0.2, 0.020000000000000004}, {0, 5, 0}, {0, -5, minusZero}, {minusZero, 5, minusZero}, {minusZero, minusZero, 0}, {minusZero, 0, minusZero},
		{infinity, 2, infinity}, {infinity, -2, -infinity}, {infinity, infinity, infinity}, {infinity, -infinity, -infinity}, {math.MaxFloat64, 2, infinity},
		{math.SmallestNonzeroFloat64, 0.25, 0}, {math.SmallestNonzeroFloat64, -0.25, minusZero},
	} {
		product(t, float(x.a), float(x.b), float(x.want), api.OK)
		product(t, float(x.b), float(x.a), float(x.want), api.OK)
	}
	for _, zero := range []float64{0, minusZero} {
		for _, far := range []float64{infinity, -infinity} {
			product(t, float(zero), float(far), null, api.ErrRange)
			product(t, float(far), float(zero), null, api.ErrRange)
		}
	}
}

func TestSumsOfPairs(t *testing.T) {
	for _, x := range []struct{ a, b, want complex128 }{
		{1 + 2i, 3 - 2i, 4}, {1i, 1i, 2i}, {complex(minusZero, 0), complex(minusZero, minusZero), complex(minusZero, 0)},
		{complex(minusZero, minusZero), complex(minusZero, minusZero), complex(minusZero, minusZero)},
		{complex(infinity, -infinity), complex(1, -infinity), complex(infinity, -infinity)}, {complex(0.1, 0.2), complex(0.2, 0.1), complex(0.30000000000000004, 0.30000000000000004)},
	} {
		a, b, want := api.Value{Kind: api.VPair, C: x.a}, api.Value{Kind: api.VPair, C: x.b}, api.Value{Kind: api.VPair, C: x.want}
		sum(t, a, b, want, api.OK)
		sum(t, b, a, want, api.OK)
	}
	sum(t, pair(infinity, 1), pair(-infinity, 2), null, api.ErrRange)
	sum(t, pair(1, infinity), pair(2, -infinity), null, api.ErrRange)
	sum(t, pair(infinity, infinity), pair(-infinity, -infinity), null, api.ErrRange)
}

func TestProductsOfPairs(t *testing.T) {
	for _, x := range []struct{ a, b, want complex128 }{
		{1 + 2i, 3 - 2i, 7 + 4i}, {1i, 1i, complex(-1, 0)}, {2 + 3i, 5 + 7i, -11 + 29i}, {2, 3 + 4i, 6 + 8i},
		{complex(0, 0), complex(-1, -1), complex(0, minusZero)}, {complex(minusZero, 0), complex(1, 1), complex(minusZero, 0)},
		{complex(infinity, 1), complex(1, 1), complex(infinity, infinity)}, {complex(infinity, 1), complex(1, -infinity), complex(infinity, -infinity)},
	} {
		a, b, want := api.Value{Kind: api.VPair, C: x.a}, api.Value{Kind: api.VPair, C: x.b}, api.Value{Kind: api.VPair, C: x.want}
		product(t, a, b, want, api.OK)
		product(t, b, a, want, api.OK)
	}
}

func TestProductsOfPairsThatAreNone(t *testing.T) {
	for _, x := range [][2]api.Value{
		{pair(infinity, 0), pair(1, 0)},         // 0 times infinity in the imaginary part
		{pair(infinity, 0), pair(0, 1)},         // in the real one
		{pair(infinity, 1), pair(1, infinity)},  // infinity less infinity in the real part
		{pair(infinity, infinity), pair(1, -1)}, // in the imaginary one
		{pair(infinity, infinity), pair(0, 0)},
		{pair(math.MaxFloat64, math.MaxFloat64), pair(2, 2)}, // infinity less infinity, by products
		{pair(math.MaxFloat64, math.MaxFloat64), pair(2, -2)},
	} {
		product(t, x[0], x[1], null, api.ErrRange)
		product(t, x[1], x[0], null, api.ErrRange)
	}
}

// Each product is rounded by itself: they go out even, where a sum of one that is rounded and one that is not does not.
func TestProductsOfPairsRounded(t *testing.T) {
	for _, x := range []float64{0.1, 1.0 / 3, 1 + 0x1p-30, 1 - 0x1p-53, 3.3e7 + 0.1, 1e-7 / 3} {
		if math.FMA(x, x, -float64(x*x)) == 0 {
			t.Fatal(x, "is no example")
		}
		twice := 2 * float64(x*x)
		product(t, pair(x, x), pair(x, x), pair(0, twice), api.OK)
		product(t, pair(x, -x), pair(x, x), pair(twice, 0), api.OK)
		product(t, pair(x, x), pair(x, -x), pair(twice, 0), api.OK)
		product(t, pair(x, -x), pair(x, -x), pair(0, -twice), api.OK)
	}
}

// 4.4: bytes.

func encode(t *testing.T, r row, want string) {
	t.Helper()
	if got, e := value.Encode(r); got != want || e != api.OK {
		t.Errorf("bytes of %v: %x %d, not %x", r, got, e, want)
	}
	if back, f := value.Decode(want); !sameRow(back, r) || f != (api.Fault{}) {
		t.Errorf("row of %x: %v %v, not %v", want, back, f, r)
	}
}

func noRow(t *testing.T, name, bytes string) {
	t.Helper()
	if r, f := value.Decode(bytes); len(r) != 0 || f != (api.Fault{Code: api.ErrForm}) {
		t.Errorf("%s: %.99x: %v %v", name, bytes, r, f)
	}
}

func TestBytes(t *testing.T) {
	encode(t, nil, "\x00")
	encode(t, row{null}, "\x01\x00")
	encode(t, row{null, null}, "\x02\x00\x00")
	encode(t, row{truth(0)}, "\x01\x01\x00")
	encode(t, row{truth(1)}, "\x01\x01\x01")
	encode(t, row{num(0)}, "\x01\x02\x00\x00\x00\x00\x00\x00\x00\x00")
	encode(t, row{num(0x0102030405060708)}, "\x01\x02\x08\x07\x06\x05\x04\x03\x02\x01")
	encode(t, row{num(-2)}, "\x01\x02\xfe\xff\xff\xff\xff\xff\xff\xff")
	encode(t, row{num(math.MinInt64)}, "\x01\x02\x00\x00\x00\x00\x00\x00\x00\x80")
	encode(t, row{num(math.MaxInt64)}, "\x01\x02\xff\xff\xff\xff\xff\xff\xff\x7f")
	encode(t, row{float(1.5)}, "\x01\x03\x00\x00\x00\x00\x00\x00\xf8\x3f")
	encode(t, row{float(0)}, "\x01\x03\x00\x00\x00\x00\x00\x00\x00\x00")
	encode(t, row{float(minusZero)}, "\x01\x03\x00\x00\x00\x00\x00\x00\x00\x80")
	encode(t, row{float(infinity)}, "\x01\x03\x00\x00\x00\x00\x00\x00\xf0\x7f")
	encode(t, row{float(-infinity)}, "\x01\x03\x00\x00\x00\x00\x00\x00\xf0\xff")
	encode(t, row{pair(1.5, -2)}, "\x01\x04\x00\x00\x00\x00\x00\x00\xf8\x3f\x00\x00\x00\x00\x00\x00\x00\xc0")
	encode(t, row{pair(0, minusZero)}, "\x01\x04\x00\x00\x00\x00\x00\x00\x00\x00\x00\x00\x00\x00\x00\x00\x00\x80")
	encode(t, row{pair(minusZero, 0)}, "\x01\x04\x00\x00\x00\x00\x00\x00\x00\x80\x00\x00\x00\x00\x00\x00\x00\x00")
	encode(t, row{pair(-infinity, infinity)}, "\x01\x04\x00\x00\x00\x00\x00\x00\xf0\xff\x00\x00\x00\x00\x00\x00\xf0\x7f")
	encode(t, row{text("")}, "\x01\x05\x00\x00")
	encode(t, row{text("ab\x00\xff")}, "\x01\x05\x04\x00ab\x00\xff")
	encode(t, row{text(longest[:255])}, "\x01\x05\xff\x00"+longest[:255])
	encode(t, row{text(longest[:258])}, "\x01\x05\x02\x01"+longest[:258])
	encode(t, row{text(longest)}, "\x01\x05\x00\x10"+longest)
	encode(t, many(api.MaxRow, null), "\x20"+strings.Repeat("\x00", api.MaxRow))
	encode(t, many(api.MaxRow, text(longest)), "\x20"+strings.Repeat("\x05\x00\x10"+longest, api.MaxRow))
	encode(t, row{truth(1), text("a"), num(1), null}, "\x04\x01\x01\x05\x01\x00a\x02\x01\x00\x00\x00\x00\x00\x00\x00\x00")
}

func TestEncodeErrors(t *testing.T) {
	for _, x := range []struct {
		r    row
		want api.Errno
	}{
		{many(api.MaxRow+1, null), api.ErrLong}, {many(256, null), api.ErrLong}, {many(api.MaxRow+1, truth(2)), api.ErrLong},
		{row{null, truth(2)}, api.ErrValue}, {row{text(longest + "x")}, api.ErrValue}, {row{{Kind: 6}}, api.ErrValue}, {row{{Kind: -1}}, api.ErrValue},
	} {
		if s, e := value.Encode(x.r); s != "" || e != x.want {
			t.Errorf("%.99s: %x %d, not %d", fmt.Sprint(x.r), s, e, x.want)
		}
	}
}

func TestDecodeTooShortOrTooLong(t *testing.T) {
	noRow(t, "nothing", "")
	rows := []row{nil, kinds(), append(kinds(), kinds()...), many(api.MaxRow, num(-1)), {text(longest[:300])}, {pair(1, 2)}}
	for _, v := range kinds() {
		rows = append(rows, row{v}, row{v, v}, row{v, null})
	}
	for _, r := range rows {
		bytes := bytesOf(r)
		for cut := range bytes {
			noRow(t, "cut", bytes[:cut])
		}
		for more := range 256 {
			noRow(t, "one byte more", bytes+string([]byte{byte(more)}))
		}
		noRow(t, "twice", bytes+bytes)
	}
}

func TestDecodeCounts(t *testing.T) {
	for count := range 256 {
		bytes := string([]byte{byte(count)}) + strings.Repeat("\x00", count)
		if count > api.MaxRow {
			noRow(t, "too many values", bytes)
			continue
		}
		encode(t, many(count, null), bytes)
	}
}

func TestDecodeKinds(t *testing.T) {
	for kind := api.VText + 1; kind < 256; kind++ {
		for length := range 20 {
			noRow(t, "a kind of no value", string([]byte{1, byte(kind)})+strings.Repeat("\x00", length))
		}
		noRow(t, "a kind of no value, second", string([]byte{2, 0, byte(kind)}))
	}
}

func TestDecodeBools(t *testing.T) {
	for b := 2; b < 256; b++ {
		noRow(t, "a bool", string([]byte{1, 1, byte(b)}))
		noRow(t, "a bool, first", string([]byte{2, 1, byte(b), 0}))
	}
}

func TestDecodeNotNumbers(t *testing.T) {
	const zero = "\x00\x00\x00\x00\x00\x00\x00\x00"
	for _, x := range notNumbers() {
		bits := bytesOf(row{num(int64(math.Float64bits(x)))})[2:]
		noRow(t, "a float", "\x01\x03"+bits)
		noRow(t, "a real part", "\x01\x04"+bits+zero)
		noRow(t, "an imaginary part", "\x01\x04"+zero+bits)
		noRow(t, "both", "\x01\x04"+bits+bits)
		noRow(t, "behind others", "\x02\x00\x03"+bits)
	}
}

func TestDecodeTextLengths(t *testing.T) {
	for _, length := range []int{api.MaxText + 1, api.MaxText + 256, 2 * api.MaxText, 1 << 15, 1<<16 - 1} {
		noRow(t, "a text", string([]byte{1, 5, byte(length), byte(length >> 8)})+strings.Repeat("x", length))
	}
	noRow(t, "more than there is", "\x01\x05\x03\x00ab")
	noRow(t, "far more than there is", "\x01\x05\xff\xffab")
	noRow(t, "less than there is", "\x01\x05\x01\x00ab")
}

func TestDecodeHowManyBytes(t *testing.T) {
	most := bytesOf(many(api.MaxRow, text(longest)))
	for _, begin := range []string{"", "\x00", "\x01\x05\x00\x10", most} {
		bytes := begin + strings.Repeat("\x00", api.MaxBytes-len(begin))
		noRow(t, "as many as may be", bytes)
		for _, more := range []int{1, 2, api.MaxBytes} {
			if r, f := value.Decode(bytes + strings.Repeat("\x00", more)); len(r) != 0 || f != (api.Fault{Code: api.ErrLong}) {
				t.Errorf("%d too many: %v %v", more, r, f)
			}
		}
	}
}

// R4: what is handed in stays as it is, with what lies behind it, and answers are new memory.

func TestHandedInStays(t *testing.T) {
	behind := api.Value{Kind: 77, N: 7, C: complex(math.NaN(), 7), S: "behind"}
	full := append(kinds(), behind, behind)
	before := slices.Clone(full)
	r := full[:len(kinds())]
	check(t, "a row with others behind it", r, 0, api.OK)
	value.Compare(r, r[:2])
	bytes, e := value.Encode(r)
	if e != api.OK || bytes != bytesOf(kinds()) {
		t.Errorf("%x %d", bytes, e)
	}
	value.Check(full)
	value.Encode(full)
	value.Compare(full, full)
	if !sameRow(full, before) {
		t.Errorf("%v, not %v", full, before)
	}
}

func shared(a, b string) bool {
	if a == "" || b == "" {
		return false
	}
	first, second := uintptr(unsafe.Pointer(unsafe.StringData(a))), uintptr(unsafe.Pointer(unsafe.StringData(b)))
	return first < second+uintptr(len(b)) && second < first+uintptr(len(a))
}

func TestAnswersAreNew(t *testing.T) {
	bytes := bytesOf(row{text("first"), text("second"), text("first")})
	a, _ := value.Decode(bytes)
	b, _ := value.Decode(bytes)
	if len(a) != 3 || len(b) != 3 {
		t.Fatal(a, b)
	}
	for i := range a {
		if shared(a[i].S, bytes) || shared(a[i].S, b[i].S) || shared(a[i].S, a[(i+1)%3].S) {
			t.Errorf("text %d of %v shares memory", i, a)
		}
	}
	a[0] = null
	a = append(a, null)
	if !sameRow(b, row{text("first"), text("second"), text("first")}) {
		t.Error(a, b)
	}
	long, short := text(strings.Repeat("a", 40)), text("")
	for _, x := range [][2]api.Value{{long, short}, {short, long}, {long, long}} {
		got, e := value.Add(x[0], x[1])
		if e != api.OK || shared(got.S, long.S) {
			t.Errorf("%v %d shares memory", got, e)
		}
	}
}

// The chapter's examples.
func TestExamples(t *testing.T) {
	for _, x := range [][2]row{{{num(2), text("a")}, {num(2), text("a"), null}}, {{float(minusZero)}, {float(0)}}} {
		if c, e := value.Compare(x[0], x[1]); c != -1 || e != api.OK {
			t.Errorf("%v and %v: %d %d", x[0], x[1], c, e)
		}
	}
	sum(t, num(math.MaxInt64), num(1), null, api.ErrRange)
	sum(t, pair(1, 2), pair(3, -2), pair(4, 0), api.OK)
	product(t, pair(0, 1), pair(0, 1), pair(-1, 0), api.OK)
	encode(t, row{truth(1), num(5)}, "\x02\x01\x01\x02\x05\x00\x00\x00\x00\x00\x00\x00")
}
