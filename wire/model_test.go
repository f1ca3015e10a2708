package wire_test

import (
	"math/big"
	"math/rand"
	"slices"
	"strings"
	"testing"

	"hopper/api"
	"hopper/wire"
)

// The model is the chapter's words, written out as plainly as may be: a reader that keeps all bytes that it was ever given, and reads them anew each time.
type model struct {
	all   string
	given int // how many bodies were given out
	bad   bool
}

// whole answers the bodies of all packets from the front on, how many bytes lie behind them, and whether a length that is too great stands there.
func whole(all string) (bodies []string, left int, great bool) {
	if len(all) < 4 {
		return nil, len(all), false
	}
	n := new(big.Int).SetBytes([]byte(all[:4])).Int64()
	if n > 65536 {
		return nil, len(all), true
	}
	if int64(len(all)-4) < n {
		return nil, len(all), false
	}
	more, left, great := whole(all[4+n:])
	return append([]string{all[4 : 4+n]}, more...), left, great
}

func (m *model) feed(b string) ([]string, api.Errno) {
	if m.bad {
		return nil, api.ErrFrame
	}
	if len(b) > 262144 {
		return nil, api.ErrLong
	}
	m.all += b
	bodies, _, great := whole(m.all)
	now := bodies[m.given:]
	m.given = len(bodies)
	m.bad = great
	if great {
		return now, api.ErrFrame
	}
	return now, api.OK
}

func (m *model) left() int {
	if m.bad {
		return 0
	}
	_, left, _ := whole(m.all)
	return left
}

func drawBytes(r *rand.Rand, n int) string {
	b := make([]byte, r.Intn(n+1))
	r.Read(b)
	if r.Intn(3) == 0 {
		clear(b)
	}
	return string(b)
}

// drawStream answers packets one behind the other, with a length that is too great, or other bytes, among some of them.
func drawStream(r *rand.Rand) string {
	var out strings.Builder
	for range r.Intn(12) {
		out.WriteString(packed(drawBytes(r, 12)))
		switch r.Intn(30) {
		case 0:
			out.WriteString(length(longest + 1 + uint32(r.Intn(3))))
		case 1:
			out.WriteString(length(r.Uint32()))
		case 2:
			out.WriteString(drawBytes(r, 3))
		case 3:
			out.WriteString(packed(strings.Repeat("q", longest-r.Intn(2))))
		}
	}
	return out.String()
}

// drawPieces cuts bytes at drawn places.
func drawPieces(r *rand.Rand, b string) []string {
	var out []string
	size := []int{1, 3, 8, 40, 70000}[r.Intn(5)]
	if len(b) > 1000 {
		size = 70000
	}
	for len(b) > 0 {
		n := min(len(b), r.Intn(size+1))
		out = append(out, b[:n])
		b = b[n:]
	}
	return append(out, "")
}

func TestFeedHeldAgainstModel(t *testing.T) {
	r := rand.New(rand.NewSource(71))
	many := strings.Repeat("\x00", api.MaxBytes+1)
	told := map[api.Errno]int{}
	beside := 0 // bodies beside an error
	for range 4000 {
		got, m := wire.New(), &model{}
		for _, piece := range drawPieces(r, drawStream(r)) {
			if r.Intn(20) == 0 {
				_, e := m.feed(many)
				feed(t, got, many, nil, e, m.left(), m.bad)
				told[e]++
			}
			want, e := m.feed(piece)
			feed(t, got, piece, want, e, m.left(), m.bad)
			told[e]++
			if e != api.OK {
				beside += len(want)
			}
		}
	}
	for _, e := range []api.Errno{api.OK, api.ErrLong, api.ErrFrame} {
		if told[e] == 0 {
			t.Errorf("%d was never told: draw others", e)
		}
	}
	if beside == 0 {
		t.Error("no body stood beside ErrFrame: draw others")
	}
}

// 7.3, on drawn bodies: they come out as they went in, cut in two ways.
func TestDrawnBodiesComeOut(t *testing.T) {
	r := rand.New(rand.NewSource(72))
	for range 2000 {
		in := make([]string, r.Intn(20))
		for i := range in {
			in[i] = drawBytes(r, 30)
		}
		all := put(t, in)
		for range 2 {
			reader := wire.New()
			var out []string
			for _, piece := range drawPieces(r, all) {
				got, e := reader.Feed(piece)
				if e != api.OK {
					t.Fatal(e)
				}
				out = append(out, got...)
			}
			if !slices.Equal(out, in) {
				t.Fatalf("%q, not %q", out, in)
			}
			state(t, reader, 0, false)
		}
	}
}

// Readers that are fed in turns are each as if alone.
func TestDrawnReadersBesideEachOther(t *testing.T) {
	r := rand.New(rand.NewSource(73))
	for range 300 {
		var readers [4]*wire.Reader
		var models [4]model
		var pieces [4][]string
		for i := range readers {
			readers[i] = wire.New()
			pieces[i] = drawPieces(r, drawStream(r))
		}
		for range 60 {
			i := r.Intn(4)
			if len(pieces[i]) == 0 {
				continue
			}
			want, e := models[i].feed(pieces[i][0])
			feed(t, readers[i], pieces[i][0], want, e, models[i].left(), models[i].bad)
			pieces[i] = pieces[i][1:]
			for k := range readers {
				state(t, readers[k], models[k].left(), models[k].bad)
			}
		}
	}
}

// P1: every call ends and none panics, at whatever bytes.
func TestNeverPanics(t *testing.T) {
	r := rand.New(rand.NewSource(74))
	for range 2000 {
		reader := wire.New()
		for range 20 {
			b := drawBytes(r, 40)
			wire.Packet(b)
			reader.Feed(b)
			if reader.Left() < 0 || reader.Left() >= 4+longest {
				t.Fatal(reader.Left())
			}
			reader.Bad()
		}
	}
}
