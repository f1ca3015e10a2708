package wal_test

import (
	"math"
	"math/rand"
	"strings"
	"testing"

	"hopper/api"
	"hopper/wal"
)

// 18.1: the bytes of entries.

const longest = api.MaxFrame

var most = strings.Repeat("m", api.MaxText)

// goes holds that an entry has these bytes, and is read from them.
func goes(t *testing.T, what string, x api.Entry, bytes string) {
	t.Helper()
	if s, e := wal.Bytes(x); s != bytes || e != api.OK {
		t.Errorf("%s: bytes %s, %d, not %s", what, brief([]byte(s)), e, brief([]byte(bytes)))
	}
	y, e := wal.Entry(bytes)
	if e != api.OK || y.Tid != x.Tid || len(y.Writes) != len(x.Writes) || plainBytes(y) != bytes {
		t.Errorf("%s: entry %s, %d, not %s", what, brief(y), e, brief(x))
	}
}

func noBytes(t *testing.T, what string, x api.Entry, want api.Errno) {
	t.Helper()
	if s, e := wal.Bytes(x); s != "" || e != want {
		t.Errorf("%s: bytes %s, %d, not %d", what, brief([]byte(s)), e, want)
	}
}

func noEntry(t *testing.T, what, b string, want api.Errno) {
	t.Helper()
	if x, e := wal.Entry(b); x.Tid != 0 || x.Writes != nil || e != want {
		t.Errorf("%s: entry %s, %d, not %d", what, brief(x), e, want)
	}
}

// neither holds that an entry may not be, nor what its bytes would be.
func neither(t *testing.T, what string, x api.Entry) {
	t.Helper()
	noBytes(t, what, x, api.ErrLog)
	noEntry(t, what, plainBytes(x), api.ErrLog)
}

// sized is an entry of so many bytes, from 45 on.
func sized(epoch, seq, size int) api.Entry {
	values := row{}
	for left := size - 42; left > 0; {
		n := min(left-3, api.MaxText)
		if rest := left - 3 - n; 0 < rest && rest < 3 {
			n -= 3
		}
		values = append(values, txt(most[:n]))
		left -= 3 + n
	}
	return entry(epoch, seq, put("", "", values...))
}

// all is an entry with values of all kinds.
func all() api.Entry {
	return entry(3, 7, put("stock", "\x03\x80\x00", api.Value{}, api.Value{Kind: api.VBool, N: 1}, num(-2), api.Value{Kind: api.VFloat, C: complex(math.Copysign(0, -1), 0)}, api.Value{Kind: api.VPair, C: complex(math.Inf(1), -1)}, txt("a\x00\xff")), gone("stock", "q"), put("", ""), gone("", ""))
}

func TestBytesByHand(t *testing.T) {
	goes(t, "one write", entry(1, 2, put("t", "ky", num(5))), "\x10\x00\x80\x00\x00\x00\x00\x00"+word(1)+
		"\x01\x00\x00\x00\x00\x00\x00\x00t"+"\x02\x00\x00\x00\x00\x00\x00\x00ky"+"\x00"+"\x0a\x00\x00\x00\x00\x00\x00\x00\x01\x02\x05\x00\x00\x00\x00\x00\x00\x00")
	goes(t, "one that is gone", entry(1, 2, gone("t", "ky")), word(1<<23+16)+word(1)+text("t")+text("ky")+"\x01"+text("\x00"))
	goes(t, "nothing in it", entry(0, 0, put("", "")), word(0)+word(1)+word(0)+word(0)+"\x00"+text("\x00"))
	goes(t, "two", entry(2, 0, gone("a", ""), put("", "b", txt("c"), api.Value{})), word(1<<24)+word(2)+text("a")+text("")+"\x01"+text("\x00")+text("")+text("b")+"\x00"+text("\x02\x05\x01\x00c\x00"))
	goes(t, "all kinds", all(), word(3<<23+56)+word(4)+text("stock")+text("\x03\x80\x00")+"\x00"+
		text("\x06\x00\x01\x01\x02\xfe\xff\xff\xff\xff\xff\xff\xff\x03\x00\x00\x00\x00\x00\x00\x00\x80\x04\x00\x00\x00\x00\x00\x00\xf0\x7f\x00\x00\x00\x00\x00\x00\xf0\xbf\x05\x03\x00a\x00\xff")+
		text("stock")+text("q")+"\x01"+text("\x00")+text("")+text("")+"\x00"+text("\x00")+text("")+text("")+"\x01"+text("\x00"))
}

func TestTids(t *testing.T) {
	with := func(tid uint64) api.Entry { return api.Entry{Tid: tid, Writes: []api.Write{gone("t", "k")}} }
	for _, tid := range []uint64{0, 8, tidOf(0, api.MaxSeq), tidOf(1, 0), tidOf(1, 1), tidOf(1, api.MaxSeq), tidOf(api.MaxEpoch, 0), tidOf(api.MaxEpoch, 1), tidOf(api.MaxEpoch, api.MaxSeq)} {
		goes(t, brief(tid), with(tid), plainBytes(with(tid)))
		for flags := uint64(1); flags < 8; flags++ {
			neither(t, brief(tid|flags), with(tid|flags))
		}
	}
	for _, tid := range []uint64{tidOf(api.MaxEpoch+1, 0), tidOf(api.MaxEpoch+1, api.MaxSeq), tidOf(2*api.MaxEpoch, 0), 1 << 63, 1<<63 + 8, math.MaxUint64, math.MaxUint64 - 7, math.MaxInt64 - 7} {
		neither(t, brief(tid), with(tid))
	}
}

func TestHowManyWrites(t *testing.T) {
	with := func(many int) api.Entry {
		x := entry(1, 0)
		for range many {
			x.Writes = append(x.Writes, gone("", ""))
		}
		return x
	}
	neither(t, "none", with(0))
	neither(t, "none, not nil", api.Entry{Tid: 8, Writes: []api.Write{}})
	neither(t, "nothing", api.Entry{})
	// 26 bytes each: 2520 fill a frame.
	for _, many := range []int{1, 2, 255, 256, 257, 2519, 2520} {
		goes(t, brief(many), with(many), plainBytes(with(many)))
	}
	for _, many := range []int{2521, 2522, api.MaxItems - 1, api.MaxItems} {
		noBytes(t, brief(many), with(many), api.ErrLong)
	}
	for _, many := range []int{api.MaxItems + 1, api.MaxItems + 2, 2 * api.MaxItems} {
		noBytes(t, brief(many), with(many), api.ErrLog)
	}
}

// A number of writes that is another one than that of those that stand there, whatever it is.
func TestCountsThatAreNone(t *testing.T) {
	one := plainBytes(entry(1, 0, put("t", "k", num(5))))[16:]
	for there := range 4 {
		for _, count := range []uint64{0, 1, 2, 3, 4, 255, 256, 2520, 4095, 4096, 4097, 1 << 31, 1 << 32, 1<<32 + 1, 1 << 62, 1 << 63, 1<<63 + 1, math.MaxUint64} {
			b := word(1<<23) + word(count) + strings.Repeat(one, there)
			if uint64(there) == count && there > 0 {
				if x, e := wal.Entry(b); e != api.OK || len(x.Writes) != there {
					t.Error(there, x, e)
				}
				continue
			}
			noEntry(t, brief(count), b, api.ErrLog)
		}
	}
}

func TestTablesAndKeys(t *testing.T) {
	for _, s := range []string{"", "a", "\x00", "\xff\xfe", "Ä", "no name.", most[1:], most} {
		for _, x := range []api.Entry{entry(1, 0, put(s, "k", num(1))), entry(1, 0, put("t", s, num(1))), entry(1, 0, put(s, s)), entry(1, 0, gone("t", "k"), gone(s, s))} {
			goes(t, brief(s), x, plainBytes(x))
		}
	}
	for _, s := range []string{most + "x", most + most} {
		for _, x := range []api.Entry{entry(1, 0, put(s, "k", num(1))), entry(1, 0, put("t", s, num(1))), entry(1, 0, gone(s, "k")), entry(1, 0, gone("t", s)), entry(1, 0, gone("t", "k"), put(s, s))} {
			neither(t, brief(s), x)
		}
	}
}

// Lengths that no text, or no row, has there.
func TestLengthsThatAreNone(t *testing.T) {
	row := "\x01\x02\x05\x00\x00\x00\x00\x00\x00\x00"
	lengths := []uint64{0, 1, 2, 9, 10, 11, 12, 4096, 4097, 65536, 1 << 18, 1 << 31, 1 << 32, 1<<32 + 2, 1 << 62, 1 << 63, 1<<63 + 10, math.MaxUint64}
	for _, n := range lengths {
		head := word(1<<23) + word(1)
		if n != 2 {
			noEntry(t, brief(n), head+word(n)+"tt"+text("kk")+"\x00"+text(row), api.ErrLog)
			noEntry(t, brief(n), head+text("tt")+word(n)+"kk"+"\x00"+text(row), api.ErrLog)
		}
		if n != 10 {
			noEntry(t, brief(n), head+text("tt")+text("kk")+"\x00"+word(n)+row, api.ErrLog)
		}
	}
}

func badRows() []row {
	bad := []row{make(row, api.MaxRow+1), make(row, 256), {txt(most + "x")}, {{Kind: 6}}, {{Kind: -1}}, {{Kind: api.VBool, N: 2}}, {{Kind: api.VNull, N: 1}}, {num(1), {Kind: api.VText, N: 1}}}
	for _, c := range []complex128{complex(math.NaN(), 0), complex(0, math.NaN())} {
		bad = append(bad, row{{Kind: api.VFloat, C: c}}, row{{Kind: api.VPair, C: c}}, row{num(1), num(2), {Kind: api.VPair, C: c}})
	}
	return append(bad, row{{Kind: api.VFloat, C: complex(1, math.Copysign(0, -1))}})
}

func TestRows(t *testing.T) {
	for _, values := range []row{nil, {}, {{}}, {txt("")}, {txt(most)}, make(row, api.MaxRow), {num(math.MinInt64), num(math.MaxInt64)}} {
		x := entry(1, 0, put("t", "k", values...))
		goes(t, brief(values), x, plainBytes(x))
	}
	for _, values := range badRows() {
		bad := put("t", "k", values...)
		noBytes(t, brief(values), entry(1, 0, bad), api.ErrLog)
		noBytes(t, brief(values), entry(1, 0, gone("t", "k"), bad), api.ErrLog)
		bad.Gone = true
		noBytes(t, brief(values), entry(1, 0, bad), api.ErrLog)
	}
	nan := "\x00\x00\x00\x00\x00\x00\xf8\x7f"
	for _, s := range []string{"", "\x01", "\x00\x00", "\x02\x00", "\x01\x06", "\x01\x01\x02", "\x01\x03" + nan, "\x01\x04" + word(0) + nan, "\x21" + strings.Repeat("\x00", 33), "\x01\x05\x01\x10" + most + "x", "\x01\x05\x02\x00a"} {
		for _, flag := range []string{"\x00", "\x01"} {
			noEntry(t, brief([]byte(s)), word(1<<23)+word(1)+text("t")+text("k")+flag+text(s), api.ErrLog)
		}
	}
}

func TestGone(t *testing.T) {
	for _, values := range []row{{{}}, {num(1)}, make(row, api.MaxRow)} {
		neither(t, brief(values), entry(1, 0, api.Write{Table: "t", Key: "k", Gone: true, Row: values}))
		neither(t, brief(values), entry(1, 0, put("t", "k"), api.Write{Gone: true, Row: values}))
	}
	goes(t, "a row without values", entry(1, 0, api.Write{Gone: true, Row: row{}}), plainBytes(entry(1, 0, gone("", ""))))
	for flag := 2; flag < 256; flag++ {
		b := string([]byte{byte(flag)})
		noEntry(t, "flag "+brief(flag), word(1<<23)+word(1)+text("t")+text("k")+b+text("\x00"), api.ErrLog)
		noEntry(t, "flag "+brief(flag), word(1<<23)+word(2)+text("")+text("")+"\x01"+text("\x00")+text("")+text("")+b+text("\x00"), api.ErrLog)
	}
}

func TestHowLong(t *testing.T) {
	for _, size := range []int{45, 46, 100, 5000, longest - 4100, longest - 2, longest - 1, longest} {
		x := sized(1, 0, size)
		if len(plainBytes(x)) != size {
			t.Fatal(size, len(plainBytes(x)))
		}
		goes(t, brief(size), x, plainBytes(x))
	}
	for _, size := range []int{longest + 1, longest + 2, longest + 5000, 2 * longest} {
		x := sized(1, 0, size)
		noBytes(t, brief(size), x, api.ErrLong)
		noEntry(t, brief(size), plainBytes(x), api.ErrLong)
	}
	// An entry that may be of as many bytes as there are.
	full := entry(api.MaxEpoch, api.MaxSeq)
	big := put(most, most)
	for range api.MaxRow {
		big.Row = append(big.Row, txt(most))
	}
	for range api.MaxItems {
		full.Writes = append(full.Writes, big)
	}
	noBytes(t, "the longest of all", full, api.ErrLong)
}

// Bytes answers ErrLog ahead of ErrLong, wherever it is that the entry may not be; Entry ErrLong ahead of ErrLog.
func TestWhichErrorIsFirst(t *testing.T) {
	long := sized(1, 0, longest).Writes[0]
	bad := append([]api.Write{put(most+"x", ""), put("", most+"x"), {Gone: true, Row: row{{}}}}, put("", "", badRows()[0]...), put("", "", badRows()[3]...))
	for _, w := range bad {
		noBytes(t, "behind", entry(1, 0, long, w), api.ErrLog)
		noBytes(t, "ahead", entry(1, 0, w, long), api.ErrLog)
		noBytes(t, "far behind", entry(1, 0, long, long, long, w), api.ErrLog)
	}
	noBytes(t, "too long alone", entry(1, 0, long, long), api.ErrLong)
	noBytes(t, "its Tid", api.Entry{Tid: 1, Writes: []api.Write{long, long}}, api.ErrLog)
	noBytes(t, "its Tid", entry(api.MaxEpoch+1, 0, long, long), api.ErrLog)
	many := entry(1, 0)
	for range api.MaxItems + 1 {
		many.Writes = append(many.Writes, long)
	}
	noBytes(t, "too many", many, api.ErrLog)
	for _, s := range []string{"\x00", "x", "\xff"} {
		noEntry(t, "one more", strings.Repeat(s, longest+1), api.ErrLong)
		noEntry(t, "far more", strings.Repeat(s, 9*longest), api.ErrLong)
		noEntry(t, "just as many", strings.Repeat(s, longest), api.ErrLog)
	}
	noEntry(t, "behind a good one", plainBytes(sized(1, 0, longest))+"x", api.ErrLong)
}

func TestBytesCutAndMore(t *testing.T) {
	for _, x := range []api.Entry{all(), small(1, 0, 5), entry(0, 0, gone("", "")), entry(2, 3, put("t", "k"), put("t", "l"))} {
		b := plainBytes(x)
		for cut := range b {
			noEntry(t, "cut", b[:cut], api.ErrLog)
		}
		for more := range 256 {
			noEntry(t, "one byte more", b+string([]byte{byte(more)}), api.ErrLog)
		}
		noEntry(t, "twice", b+b, api.ErrLog)
		noEntry(t, "a byte ahead", "\x00"+b, api.ErrLog)
	}
	noEntry(t, "nothing", "", api.ErrLog)
}

// Drawn entries and bytes are held against the model.

func drawText(r *rand.Rand) string {
	s := make([]byte, r.Intn(6))
	for i := range s {
		s[i] = byte(r.Intn(4)) * 85
	}
	return string(s)
}

func drawValue(r *rand.Rand) api.Value {
	switch r.Intn(7) {
	case 0:
		return api.Value{}
	case 1:
		return api.Value{Kind: api.VBool, N: int64(r.Intn(2))}
	case 2:
		return num(r.Int63() - r.Int63())
	case 3:
		return api.Value{Kind: api.VFloat, C: complex(r.NormFloat64(), 0)}
	case 4:
		return api.Value{Kind: api.VPair, C: complex(r.NormFloat64(), r.NormFloat64())}
	case 5:
		return txt(drawText(r))
	}
	return num(int64(r.Intn(3)))
}

func drawWrite(r *rand.Rand) api.Write {
	w := api.Write{Table: drawText(r), Key: drawText(r), Gone: r.Intn(3) == 0}
	if !w.Gone {
		for range r.Intn(4) {
			w.Row = append(w.Row, drawValue(r))
		}
	}
	return w
}

func drawEntry(r *rand.Rand, epoch, seq int) api.Entry {
	x := entry(epoch, seq)
	for range 1 + r.Intn(3) {
		x.Writes = append(x.Writes, drawWrite(r))
	}
	return x
}

// drawWrong spoils an entry, so that it may not be, as a rule.
func drawWrong(r *rand.Rand, x api.Entry) api.Entry {
	w := &x.Writes[r.Intn(len(x.Writes))]
	switch r.Intn(7) {
	case 0:
		x.Tid |= uint64(r.Intn(8))
	case 1:
		x.Tid = r.Uint64()
	case 2:
		x.Writes = nil
	case 3:
		w.Table = most + drawText(r)
	case 4:
		w.Key = most + drawText(r)
	case 5:
		w.Gone = true
		w.Row = append(w.Row, drawValue(r))
	case 6:
		w.Row = append(w.Row, badRows()[r.Intn(8)]...)
	}
	return x
}

func TestDrawnEntries(t *testing.T) {
	r := rand.New(rand.NewSource(18))
	good := 0
	for range 20000 {
		x := drawEntry(r, r.Intn(4), r.Intn(4))
		if r.Intn(2) == 0 {
			x = drawWrong(r, x)
		}
		s, e := wal.Bytes(x)
		want, wantE := modelBytes(x)
		if s != want || e != wantE {
			t.Errorf("%s: %s %d, not %s %d", brief(x), brief([]byte(s)), e, brief([]byte(want)), wantE)
		}
		if e == api.OK {
			good++
			goes(t, "drawn", x, s)
		}
	}
	if good < 5000 {
		t.Error("few entries may be:", good)
	}
}

// spoilt changes bytes a little.
func spoilt(r *rand.Rand, b []byte) []byte {
	for range 1 + r.Intn(2) {
		at := r.Intn(len(b))
		switch r.Intn(5) {
		case 0:
			b[at] = byte(r.Intn(256))
		case 1:
			b[at] = byte(r.Intn(3))
		case 2:
			b[at] ^= 1 << r.Intn(8)
		case 3:
			b = append(b[:at:at], b[at+1:]...)
		case 4:
			b = append(b[:at:at], append([]byte{byte(r.Intn(3))}, b[at:]...)...)
		}
	}
	return b
}

// Bytes are one entry or none: what is read from them is written as just them.
func TestDrawnBytes(t *testing.T) {
	r := rand.New(rand.NewSource(81))
	good := 0
	for range 60000 {
		b := string(spoilt(r, []byte(plainBytes(drawEntry(r, r.Intn(4), r.Intn(4))))))
		x, e := wal.Entry(b)
		want, wantE := modelEntry(b)
		if e != wantE || x.Tid != want.Tid || plainBytes(x) != plainBytes(want) {
			t.Errorf("%x: %s %d, not %s %d", b, brief(x), e, brief(want), wantE)
		}
		if e != api.OK {
			continue
		}
		good++
		if s, e := wal.Bytes(x); s != b || e != api.OK {
			t.Errorf("%x: %x %d", b, s, e)
		}
	}
	if good < 2000 {
		t.Error("few are entries:", good)
	}
}
