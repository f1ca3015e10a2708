package key_test

import (
	"bytes"
	"fmt"
	"math"
	"math/big"
	"math/rand"
	"regexp"
	"slices"
	"strings"
	"testing"

	"hopper/api"
	"hopper/key"
	"hopper/value"
)

// The model is the chapter's words, written out as plainly as may be: numbers without an end, bits as a text of 0 and 1, what a key looks like as a pattern.

// bigBytes answers a number of 0 to 2^64 - 1 as eight bytes, the highest first.
func bigBytes(n *big.Int) string { return string(n.FillBytes(make([]byte, 8))) }

func modelWhole(n int64) string {
	half := new(big.Int).Lsh(big.NewInt(1), 63)
	return bigBytes(half.Add(half, big.NewInt(n)))
}

func modelFloat(x float64) string {
	bits := []byte(fmt.Sprintf("%064b", math.Float64bits(x)))
	for i, b := range bits {
		if i == 0 || x < 0 || math.Signbit(x) {
			bits[i] = '0' + '1' - b
		}
	}
	n, _ := new(big.Int).SetString(string(bits), 2)
	return bigBytes(n)
}

func modelKeyOf(v api.Value) string {
	begin := string([]byte{byte(1 + v.Kind)})
	switch v.Kind {
	case api.VBool:
		return begin + string([]byte{byte(v.N)})
	case api.VInt:
		return begin + modelWhole(v.N)
	case api.VFloat:
		return begin + modelFloat(real(v.C))
	case api.VPair:
		return begin + modelFloat(real(v.C)) + modelFloat(imag(v.C))
	case api.VText:
		return begin + strings.ReplaceAll(v.S, "\x00", "\x00\xff") + "\x00\x01"
	}
	return begin
}

func modelEncode(r row) (string, api.Errno) {
	if _, e := value.Check(r); e != api.OK {
		return "", e
	}
	var out strings.Builder
	for _, v := range r {
		out.WriteString(modelKeyOf(v))
	}
	if out.Len() > api.MaxBytes {
		return "", api.ErrLong
	}
	return out.String(), api.OK
}

// latin writes each byte as the rune of its number, so that a pattern can speak of bytes.
func latin(b string) string {
	runes := make([]rune, len(b))
	for i, c := range []byte(b) {
		runes[i] = rune(c)
	}
	return string(runes)
}

func bytesOf(s string) string {
	var out []byte
	for _, r := range s {
		out = append(out, byte(r))
	}
	return string(out)
}

var oneValue = regexp.MustCompile(`^(?s:\x01|\x02[\x00\x01]|\x03.{8}|\x04.{8}|\x05.{16}|\x06(?:[^\x00]|\x00\x{ff})*\x00\x01)`)

func floatOf(b string) float64 {
	bits := []byte(fmt.Sprintf("%064b", new(big.Int).SetBytes([]byte(b))))
	below := bits[0] == '0'
	for i, b := range bits {
		if i == 0 || below {
			bits[i] = '0' + '1' - b
		}
	}
	n, _ := new(big.Int).SetString(string(bits), 2)
	return math.Float64frombits(n.Uint64())
}

func modelValue(b string) api.Value {
	switch b[0] {
	case 2:
		return truth(int64(b[1]))
	case 3:
		n := new(big.Int).SetBytes([]byte(b[1:]))
		return num(n.Sub(n, new(big.Int).Lsh(big.NewInt(1), 63)).Int64())
	case 4:
		return float(floatOf(b[1:]))
	case 5:
		return pair(floatOf(b[1:9]), floatOf(b[9:]))
	case 6:
		return text(strings.ReplaceAll(b[1:len(b)-2], "\x00\xff", "\x00"))
	}
	return null
}

func modelDecode(k string) (row, api.Errno) {
	if len(k) > api.MaxBytes {
		return nil, api.ErrLong
	}
	var out row
	for rest := latin(k); rest != ""; {
		one := oneValue.FindString(rest)
		if one == "" {
			return nil, api.ErrForm
		}
		out = append(out, modelValue(bytesOf(one)))
		rest = rest[len(one):]
	}
	if _, e := value.Check(out); e != api.OK {
		return nil, api.ErrForm
	}
	return out, api.OK
}

// Drawn inputs.

func randomFloat(r *rand.Rand) float64 {
	if r.Intn(2) == 0 {
		list := floats()
		return list[r.Intn(len(list))].x
	}
	if x := math.Float64frombits(r.Uint64()); x == x {
		return x
	}
	return 7
}

func randomInt(r *rand.Rand) int64 {
	switch r.Intn(3) {
	case 0:
		return int64(r.Intn(5)) - 2
	case 1:
		return int64(r.Uint64()) >> r.Intn(64)
	}
	edges := []int64{least, least + 1, greatest, greatest - 1, 1 << 32, -1 << 32, 255, 256, -256, -257}
	return edges[r.Intn(len(edges))]
}

func randomText(r *rand.Rand) string {
	if r.Intn(50) == 0 {
		return longest[:api.MaxText-1] + "\x00a"[:r.Intn(2)]
	}
	b := make([]byte, r.Intn(5))
	for i := range b {
		b[i] = "a\x00\x00\x01\xff\xfe"[r.Intn(6)]
	}
	return string(b)
}

func randomOf(r *rand.Rand, kind int) api.Value {
	switch kind {
	case api.VBool:
		return truth(int64(r.Intn(2)))
	case api.VInt:
		return num(randomInt(r))
	case api.VFloat:
		return float(randomFloat(r))
	case api.VPair:
		return pair(randomFloat(r), randomFloat(r))
	case api.VText:
		return text(randomText(r))
	}
	return null
}

func randomValue(r *rand.Rand) api.Value { return randomOf(r, r.Intn(6)) }

func randomRow(r *rand.Rand) row {
	length := r.Intn(5)
	if r.Intn(30) == 0 {
		length = api.MaxRow - r.Intn(2)
	}
	out := make(row, length)
	for i := range out {
		out[i] = randomValue(r)
	}
	return out
}

// near draws a row that is like another for a while.
func near(r *rand.Rand, a row) row {
	out := slices.Clone(a)
	if len(out) > 0 && r.Intn(2) == 0 {
		at := r.Intn(len(out))
		if out[at].Kind == api.VText && r.Intn(2) == 0 && len(out[at].S) < 100 {
			out[at].S += []string{"\x00", "\x01", "\xff", "\x00\x01", "\x00\xff"}[r.Intn(5)]
		} else {
			out[at] = randomOf(r, out[at].Kind)
		}
	}
	switch r.Intn(4) {
	case 0:
		out = out[:r.Intn(len(out)+1)]
	case 1:
		if len(out) < api.MaxRow {
			out = append(out, randomValue(r))
		}
	}
	return out
}

// spoilBytes changes, takes or adds a few bytes.
func spoilBytes(r *rand.Rand, k string) string {
	b := []byte(k)
	odd := []byte{0, 1, 2, 3, 4, 5, 6, 7, 127, 128, 254, 255, 'a'}
	for range r.Intn(3) {
		at := r.Intn(len(b) + 1)
		one := odd[r.Intn(len(odd))]
		switch {
		case at == len(b) || r.Intn(4) == 0:
			b = slices.Insert(b, at, one)
		case r.Intn(3) == 0:
			b = slices.Delete(b, at, at+1)
		case r.Intn(8) == 0:
			b = b[:at]
		default:
			b[at] = one
		}
	}
	return string(b)
}

// 5.1, held against the model.

func TestKeysAsTheModel(t *testing.T) {
	for seed := range int64(20000) {
		r := rand.New(rand.NewSource(seed))
		a := randomRow(r)
		if r.Intn(10) == 0 && len(a) > 0 {
			a[r.Intn(len(a))].N = int64(r.Intn(4) - 1)
		}
		if r.Intn(20) == 0 {
			a = append(a, make(row, api.MaxRow-r.Intn(3))...)
		}
		got, e := key.Encode(a)
		if want, wantE := modelEncode(a); got != want || e != wantE {
			t.Fatalf("seed %d: key of %v: %x %d, not %x %d", seed, a, got, e, want, wantE)
		}
	}
}

func TestRowsAsTheModel(t *testing.T) {
	good := 0
	for seed := range int64(40000) {
		r := rand.New(rand.NewSource(seed))
		k := spoilBytes(r, keyOf(randomRow(r)))
		got, f := key.Decode(k)
		want, e := modelDecode(k)
		if !sameRow(got, want) || f != (api.Fault{Code: e}) {
			t.Fatalf("seed %d: row of %x: %v %v, not %v %d", seed, k, got, f, want, e)
		}
		if e == api.OK {
			good++
		}
	}
	if good < 5000 || good > 35000 {
		t.Errorf("%d of the drawn bytes are keys", good)
	}
}

// 5.3: of two rows' keys the one stands ahead of the other just as the rows do, and begins with the other just if the row does.
func TestOrderOfDrawnRows(t *testing.T) {
	for seed := range int64(40000) {
		r := rand.New(rand.NewSource(seed))
		a := randomRow(r)
		b := near(r, a)
		first, second := keyOf(a), keyOf(b)
		want, e := value.Compare(a, b)
		if got := bytes.Compare([]byte(first), []byte(second)); got != want || e != api.OK {
			t.Fatalf("seed %d: keys of %v and %v: %d, not %d %d", seed, a, b, got, want, e)
		}
		begins := len(b) <= len(a) && sameRow(a[:min(len(a), len(b))], b)
		if got := strings.HasPrefix(first, second); got != begins {
			t.Fatalf("seed %d: the key of %v begins with that of %v: %t", seed, a, b, got)
		}
	}
}

// 5.3: what is encoded is decoded.
func TestEncodedIsDecoded(t *testing.T) {
	for seed := range int64(20000) {
		r := rand.New(rand.NewSource(seed))
		a := randomRow(r)
		if back, f := key.Decode(keyOf(a)); !sameRow(back, a) || f != (api.Fault{}) {
			t.Fatalf("seed %d: %v %v, not %v", seed, back, f, a)
		}
	}
}

// 5.3: bytes are one key or none: those that are decoded are just what the row is encoded to.
func TestBytesAreOneKeyOrNone(t *testing.T) {
	hold := func(k string) {
		a, f := key.Decode(k)
		if f != (api.Fault{}) {
			return
		}
		if back, e := key.Encode(a); back != k || e != api.OK {
			t.Fatalf("%x is decoded as %v, which has the key %x %d", k, a, back, e)
		}
	}
	for seed := range int64(40000) {
		r := rand.New(rand.NewSource(seed))
		hold(spoilBytes(r, keyOf(randomRow(r))))
		drawn := make([]byte, r.Intn(20))
		for i := range drawn {
			drawn[i] = []byte{0, 1, 2, 3, 4, 5, 6, 7, 'a', 255}[r.Intn(10)]
		}
		hold(string(drawn))
	}
}

// P1: whatever the bytes, there is an answer.
func TestAnyBytes(t *testing.T) {
	for seed := range int64(20000) {
		r := rand.New(rand.NewSource(seed))
		drawn := make([]byte, r.Intn(60))
		r.Read(drawn)
		if len(drawn) > 0 && r.Intn(2) == 0 {
			drawn[0] = byte(r.Intn(8))
		}
		got, f := key.Decode(string(drawn))
		want, e := modelDecode(string(drawn))
		if !sameRow(got, want) || f != (api.Fault{Code: e}) {
			t.Fatalf("seed %d: row of %x: %v %v, not %v %d", seed, drawn, got, f, want, e)
		}
	}
}
