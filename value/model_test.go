package value_test

import (
	"bytes"
	"encoding/binary"
	"fmt"
	"io"
	"math"
	"math/big"
	"math/rand"
	"slices"
	"strings"
	"testing"

	"hopper/api"
	"hopper/value"
)

// The model is the chapter's words, written out as plainly as may be: numbers without an end, rounded once at the end.

// A value that may be is one of these, all of it; others differ from each of them in a field.
func modelMayBe(v api.Value) bool {
	var only api.Value
	switch v.Kind {
	case api.VNull:
		only = api.Value{}
	case api.VBool:
		only = truth(v.N & 1)
	case api.VInt:
		only = num(v.N)
	case api.VFloat:
		only = float(real(v.C))
	case api.VPair:
		only = pair(real(v.C), imag(v.C))
	case api.VText:
		only = text(v.S)
	default:
		return false
	}
	return same(v, only) && real(v.C) == real(v.C) && imag(v.C) == imag(v.C) && len(v.S) <= api.MaxText
}

func modelCheck(r row) (int, api.Errno) {
	if len(r) > api.MaxRow {
		return 0, api.ErrLong
	}
	if at := slices.IndexFunc(r, func(v api.Value) bool { return !modelMayBe(v) }); at >= 0 {
		return at, api.ErrValue
	}
	return 0, api.OK
}

func modelFloats(x, y float64) int {
	switch {
	case x < y:
		return -1
	case x > y:
		return 1
	case math.Signbit(x) && !math.Signbit(y):
		return -1
	case !math.Signbit(x) && math.Signbit(y):
		return 1
	}
	return 0
}

func modelValues(a, b api.Value) int {
	if a.Kind != b.Kind {
		return big.NewInt(int64(a.Kind)).Cmp(big.NewInt(int64(b.Kind)))
	}
	switch a.Kind {
	case api.VBool, api.VInt:
		return big.NewInt(a.N).Cmp(big.NewInt(b.N))
	case api.VFloat:
		return modelFloats(real(a.C), real(b.C))
	case api.VPair:
		if c := modelFloats(real(a.C), real(b.C)); c != 0 {
			return c
		}
		return modelFloats(imag(a.C), imag(b.C))
	case api.VText:
		return bytes.Compare([]byte(a.S), []byte(b.S))
	}
	return 0
}

func modelCompare(a, b row) (int, api.Errno) {
	if _, e := modelCheck(a); e != api.OK {
		return 0, e
	}
	if _, e := modelCheck(b); e != api.OK {
		return 0, e
	}
	for i := 0; ; i++ {
		switch {
		case i == len(a) && i == len(b):
			return 0, api.OK
		case i == len(a):
			return -1, api.OK
		case i == len(b):
			return 1, api.OK
		}
		if c := modelValues(a[i], b[i]); c != 0 {
			return c, api.OK
		}
	}
}

// exactly does with floats what f does with numbers of so many bits that nothing is lost, and rounds; what is none (infinity and its opposite, 0 times infinity, what is made of such) is a NaN.
func exactly(f func(z, x, y *big.Float) *big.Float, x, y float64) (out float64) {
	defer func() {
		if recover() != nil {
			out = math.NaN()
		}
	}()
	z := new(big.Float).SetPrec(5000)
	out, _ = f(z, big.NewFloat(x), big.NewFloat(y)).Float64()
	return out
}

func plus(x, y float64) float64  { return exactly((*big.Float).Add, x, y) }
func minus(x, y float64) float64 { return exactly((*big.Float).Sub, x, y) }
func times(x, y float64) float64 { return exactly((*big.Float).Mul, x, y) }

func modelWhole(n *big.Int) (api.Value, api.Errno) {
	if !n.IsInt64() {
		return null, api.ErrRange
	}
	return num(n.Int64()), api.OK
}

func modelNumber(v api.Value) (api.Value, api.Errno) {
	if real(v.C) != real(v.C) || imag(v.C) != imag(v.C) {
		return null, api.ErrRange
	}
	return v, api.OK
}

func modelTwo(a, b api.Value, times bool) api.Errno {
	switch {
	case !modelMayBe(a) || !modelMayBe(b):
		return api.ErrValue
	case a.Kind != b.Kind || a.Kind < api.VInt || times && a.Kind == api.VText:
		return api.ErrKind
	}
	return api.OK
}

func modelAdd(a, b api.Value) (api.Value, api.Errno) {
	if e := modelTwo(a, b, false); e != api.OK {
		return null, e
	}
	switch a.Kind {
	case api.VInt:
		return modelWhole(new(big.Int).Add(big.NewInt(a.N), big.NewInt(b.N)))
	case api.VFloat:
		return modelNumber(float(plus(real(a.C), real(b.C))))
	case api.VPair:
		return modelNumber(pair(plus(real(a.C), real(b.C)), plus(imag(a.C), imag(b.C))))
	}
	if len(a.S)+len(b.S) > api.MaxText {
		return null, api.ErrLong
	}
	return text(a.S + b.S), api.OK
}

func modelTimes(a, b api.Value) (api.Value, api.Errno) {
	if e := modelTwo(a, b, true); e != api.OK {
		return null, e
	}
	switch a.Kind {
	case api.VInt:
		return modelWhole(new(big.Int).Mul(big.NewInt(a.N), big.NewInt(b.N)))
	case api.VFloat:
		return modelNumber(float(times(real(a.C), real(b.C))))
	}
	p, q, r, s := real(a.C), imag(a.C), real(b.C), imag(b.C)
	return modelNumber(pair(minus(times(p, r), times(q, s)), plus(times(p, s), times(q, r))))
}

func modelEncode(r row) (string, api.Errno) {
	if _, e := modelCheck(r); e != api.OK {
		return "", e
	}
	var out bytes.Buffer
	write := func(x any) { binary.Write(&out, binary.LittleEndian, x) }
	write(uint8(len(r)))
	for _, v := range r {
		write(uint8(v.Kind))
		switch v.Kind {
		case api.VBool:
			write(uint8(v.N))
		case api.VInt:
			write(v.N)
		case api.VFloat:
			write(real(v.C))
		case api.VPair:
			write(v.C)
		case api.VText:
			write(uint16(len(v.S)))
			write([]byte(v.S))
		}
	}
	return out.String(), api.OK
}

// modelDecode answers an error of its own at the first thing that is wrong.
func modelDecode(b string) (row, error) {
	in := strings.NewReader(b)
	var count, kind, truthful uint8
	var length uint16
	var out row
	if err := binary.Read(in, binary.LittleEndian, &count); err != nil {
		return nil, err
	}
	for range count {
		if err := binary.Read(in, binary.LittleEndian, &kind); err != nil {
			return nil, err
		}
		v := api.Value{Kind: int(kind)}
		var err error
		var re float64
		switch v.Kind {
		case api.VBool:
			err = binary.Read(in, binary.LittleEndian, &truthful)
			v.N = int64(truthful)
		case api.VInt:
			err = binary.Read(in, binary.LittleEndian, &v.N)
		case api.VFloat:
			err = binary.Read(in, binary.LittleEndian, &re)
			v.C = complex(re, 0)
		case api.VPair:
			err = binary.Read(in, binary.LittleEndian, &v.C)
		case api.VText:
			if err = binary.Read(in, binary.LittleEndian, &length); err == nil {
				s := make([]byte, length)
				_, err = io.ReadFull(in, s)
				v.S = string(s)
			}
		}
		if err != nil {
			return nil, err
		}
		out = append(out, v)
	}
	if at, e := modelCheck(out); e != api.OK || in.Len() > 0 {
		return nil, fmt.Errorf("%d at %d, %d left", e, at, in.Len())
	}
	return out, nil
}

// Drawn inputs.

func randomFloat(r *rand.Rand) float64 {
	edges := []float64{0, minusZero, 1, -1, 0.1, 0.2, -0.3, 1.0 / 3, infinity, -infinity, math.MaxFloat64, -math.MaxFloat64, math.SmallestNonzeroFloat64, 1 + 0x1p-52, 1e-160, 1e160}
	switch r.Intn(3) {
	case 0:
		return edges[r.Intn(len(edges))]
	case 1:
		return math.Ldexp(r.Float64()-0.5, r.Intn(8))
	}
	if x := math.Float64frombits(r.Uint64()); x == x {
		return x
	}
	return 7
}

func randomInt(r *rand.Rand) int64 {
	edges := []int64{math.MinInt64, math.MinInt64 + 1, math.MaxInt64, math.MaxInt64 - 1, 1 << 62, -1 << 62, 1 << 32, -1 << 31, 3037000499, 3037000500}
	switch r.Intn(4) {
	case 0:
		return int64(r.Intn(5)) - 2
	case 1:
		return edges[r.Intn(len(edges))]
	case 2:
		return int64(r.Uint64()) >> r.Intn(64)
	}
	return int64(r.Uint64())
}

func randomText(r *rand.Rand) string {
	if r.Intn(50) == 0 {
		return longest[:api.MaxText/2-1+r.Intn(3)]
	}
	b := make([]byte, r.Intn(4))
	for i := range b {
		b[i] = "ab\x00\xff"[r.Intn(4)]
	}
	return string(b)
}

func randomOf(r *rand.Rand, kind int) api.Value {
	switch kind {
	case api.VBool:
		return truth(int64(r.Intn(2)))
	case api.VInt:
		return num(randomInt(r))
	case api.VFloat:
		return float(randomFloat(r))
	case api.VPair:
		return pair(randomFloat(r), randomFloat(r))
	case api.VText:
		return text(randomText(r))
	}
	return null
}

func randomValue(r *rand.Rand) api.Value { return randomOf(r, r.Intn(6)) }

func randomRow(r *rand.Rand) row {
	length := r.Intn(5)
	if r.Intn(30) == 0 {
		length = api.MaxRow - r.Intn(2)
	}
	out := make(row, length)
	for i := range out {
		out[i] = randomValue(r)
	}
	return out
}

// near draws a row that is like another for a while.
func near(r *rand.Rand, a row) row {
	out := slices.Clone(a)
	if len(out) > 0 && r.Intn(2) == 0 {
		at := r.Intn(len(out))
		out[at] = randomOf(r, out[at].Kind)
	}
	switch r.Intn(4) {
	case 0:
		out = out[:r.Intn(len(out)+1)]
	case 1:
		if len(out) < api.MaxRow {
			out = append(out, randomValue(r))
		}
	}
	return out
}

// spoil changes one field of a value, mostly into what it may not be.
func spoil(r *rand.Rand, v api.Value) api.Value {
	odd := append(notNumbers(), minusZero, 0, 1, infinity)
	switch r.Intn(6) {
	case 0:
		v.Kind = r.Intn(10) - 2
	case 1:
		v.N = int64(r.Intn(4)) - 1
	case 2:
		v.C = complex(odd[r.Intn(len(odd))], imag(v.C))
	case 3:
		v.C = complex(real(v.C), odd[r.Intn(len(odd))])
	case 4:
		v.S = randomText(r)
	case 5:
		v.S = longest[:api.MaxText-1] + "xx"[:r.Intn(3)]
	}
	return v
}

func spoilRow(r *rand.Rand, list row) row {
	list = slices.Clone(list)
	if len(list) > 0 && r.Intn(2) == 0 {
		at := r.Intn(len(list))
		list[at] = spoil(r, list[at])
	}
	if r.Intn(15) == 0 {
		list = append(list, make(row, api.MaxRow)...)
	}
	return list
}

// 4.1 to 4.4, held against the model.

func TestRowsAsTheModel(t *testing.T) {
	for seed := range int64(20000) {
		r := rand.New(rand.NewSource(seed))
		a := randomRow(r)
		b := near(r, a)
		if r.Intn(3) == 0 {
			a = spoilRow(r, a)
		}
		if r.Intn(3) == 0 {
			b = spoilRow(r, b)
		}
		if got, want := fmt.Sprint(value.Check(a)), fmt.Sprint(modelCheck(a)); got != want {
			t.Fatalf("seed %d: check of %v: %s, not %s", seed, a, got, want)
		}
		if got, want := fmt.Sprint(value.Compare(a, b)), fmt.Sprint(modelCompare(a, b)); got != want {
			t.Fatalf("seed %d: compare of %v and %v: %s, not %s", seed, a, b, got, want)
		}
		s, e := value.Encode(a)
		if want, wantE := modelEncode(a); s != want || e != wantE {
			t.Fatalf("seed %d: bytes of %v: %x %d, not %x %d", seed, a, s, e, want, wantE)
		}
	}
}

func TestSumsAsTheModel(t *testing.T) {
	for seed := range int64(60000) {
		r := rand.New(rand.NewSource(seed))
		kind := 2 + r.Intn(4)
		a, b := randomOf(r, kind), randomOf(r, kind)
		if r.Intn(10) == 0 {
			b = randomValue(r)
		}
		if r.Intn(10) == 0 {
			a = spoil(r, a)
		}
		if r.Intn(10) == 0 {
			b = spoil(r, b)
		}
		got, e := value.Add(a, b)
		if want, wantE := modelAdd(a, b); !same(got, want) || e != wantE {
			t.Fatalf("seed %d: sum of %v and %v: %v %d, not %v %d", seed, a, b, got, e, want, wantE)
		}
		got, e = value.Times(a, b)
		if want, wantE := modelTimes(a, b); !same(got, want) || e != wantE {
			t.Fatalf("seed %d: product of %v and %v: %v %d, not %v %d", seed, a, b, got, e, want, wantE)
		}
	}
}

func decodeAsTheModel(t *testing.T, seed int64, b string) {
	t.Helper()
	got, f := value.Decode(b)
	want, err := modelDecode(b)
	if (err == nil) != (f == api.Fault{}) || err != nil && f != (api.Fault{Code: api.ErrForm}) || !sameRow(got, want) {
		t.Fatalf("seed %d: row of %x: %v %v, not %v %v", seed, b, got, f, want, err)
	}
	// 4.5: bytes are one row or none.
	if back, e := value.Encode(got); err == nil && (back != b || e != api.OK) {
		t.Fatalf("seed %d: %x is decoded as %v, which is %x %d", seed, b, got, back, e)
	}
}

func TestDecodeAsTheModel(t *testing.T) {
	for seed := range int64(20000) {
		r := rand.New(rand.NewSource(seed))
		b := []byte(bytesOf(randomRow(r)))
		decodeAsTheModel(t, seed, string(b))
		for range 4 {
			at := r.Intn(len(b))
			switch r.Intn(4) {
			case 0:
				b[at] = byte(r.Intn(8))
			case 1:
				b[at] ^= 1 << r.Intn(8)
			case 2:
				b = slices.Insert(b, at, byte(r.Intn(8)))
			case 3:
				b[at] = 255
			}
			decodeAsTheModel(t, seed, string(b))
		}
	}
}

// All short bytes of few kinds of bytes.
func TestDecodeShortBytes(t *testing.T) {
	const with = "\x00\x01\x02\x03\x05\x06"
	list := []string{""}
	for range 6 {
		var longer []string
		for _, s := range list {
			decodeAsTheModel(t, -1, s)
			for _, c := range []byte(with) {
				longer = append(longer, s+string([]byte{c}))
			}
		}
		list = longer
	}
}

// 4.5: one order, in which just the same rows are the same; what is encoded is decoded.

func TestOneOrder(t *testing.T) {
	for seed := range int64(20000) {
		r := rand.New(rand.NewSource(seed))
		a := randomRow(r)
		b := near(r, a)
		c := near(r, b)
		ab, _ := value.Compare(a, b)
		ba, _ := value.Compare(b, a)
		bc, _ := value.Compare(b, c)
		ac, _ := value.Compare(a, c)
		if ab != -ba || ab < -1 || ab > 1 || (ab == 0) != sameRow(a, b) {
			t.Fatalf("seed %d: %v and %v: %d and %d", seed, a, b, ab, ba)
		}
		if ab <= 0 && bc <= 0 && (ac > 0 || ac == 0 && (ab < 0 || bc < 0)) || ab >= 0 && bc >= 0 && (ac < 0 || ac == 0 && (ab > 0 || bc > 0)) {
			t.Fatalf("seed %d: %v, %v and %v: %d, %d and %d", seed, a, b, c, ab, bc, ac)
		}
		if (ab == 0) != (bytesOf(a) == bytesOf(b)) {
			t.Fatalf("seed %d: bytes of %v and %v", seed, a, b)
		}
	}
}

func TestEncodedIsDecoded(t *testing.T) {
	for seed := range int64(5000) {
		r := rand.New(rand.NewSource(seed))
		a := randomRow(r)
		back, f := value.Decode(bytesOf(a))
		if f != (api.Fault{}) || !sameRow(a, back) {
			t.Fatalf("seed %d: %v came back as %v %v", seed, a, back, f)
		}
	}
	for _, a := range inOrder() {
		back, f := value.Decode(bytesOf(a))
		if f != (api.Fault{}) || !sameRow(a, back) {
			t.Fatalf("%v came back as %v %v", a, back, f)
		}
	}
}

// 4.6: both ways round.

func TestBothWaysRound(t *testing.T) {
	for seed := range int64(40000) {
		r := rand.New(rand.NewSource(seed))
		kind := r.Intn(6)
		a, b := randomOf(r, kind), randomOf(r, kind)
		if r.Intn(10) == 0 {
			b = spoil(r, randomValue(r))
		}
		sum, e := value.Add(a, b)
		other, f := value.Add(b, a)
		if e != f || !same(sum, other) && sum.Kind != api.VText || len(sum.S) != len(other.S) {
			t.Fatalf("seed %d: sums of %v and %v: %v %d and %v %d", seed, a, b, sum, e, other, f)
		}
		product, e := value.Times(a, b)
		other, f = value.Times(b, a)
		if e != f || !same(product, other) {
			t.Fatalf("seed %d: products of %v and %v: %v %d and %v %d", seed, a, b, product, e, other, f)
		}
	}
}

func TestZeroAndOneOfWholeNumbers(t *testing.T) {
	list := []int64{math.MinInt64, math.MinInt64 + 1, -1, 0, 1, 2, math.MaxInt64 - 1, math.MaxInt64}
	r := rand.New(rand.NewSource(1))
	for range 2000 {
		list = append(list, randomInt(r))
	}
	for _, n := range list {
		sum(t, num(n), num(0), num(n), api.OK)
		sum(t, num(0), num(n), num(n), api.OK)
		product(t, num(n), num(1), num(n), api.OK)
		product(t, num(1), num(n), num(n), api.OK)
	}
}

// R7: the same call tells the same.
func TestTwice(t *testing.T) {
	for seed := range int64(500) {
		r := rand.New(rand.NewSource(seed))
		a, b := spoilRow(r, randomRow(r)), spoilRow(r, randomRow(r))
		v, w := randomValue(r), randomValue(r)
		all := func() string {
			var out strings.Builder
			fmt.Fprintln(&out, fmt.Sprint(value.Check(a)), fmt.Sprint(value.Compare(a, b)), fmt.Sprint(value.Encode(a)))
			fmt.Fprintln(&out, fmt.Sprint(value.Add(v, w)), fmt.Sprint(value.Times(v, w)))
			fmt.Fprintln(&out, fmt.Sprint(value.Decode(bytesOf(row{v, w}))))
			return out.String()
		}
		if first, second := all(), all(); first != second {
			t.Fatalf("seed %d: %s and %s", seed, first, second)
		}
	}
}
