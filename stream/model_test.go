package stream_test

import (
	"fmt"
	"math"
	"math/rand"
	"strings"
	"testing"

	"hopper/api"
	"hopper/stream"
)

// place is a side of a connection.
type place struct{ conn, side int }

// model is the chapter's words, written out as plainly as may be: what is on its way to a side and what has arrived there as two texts.
type model struct {
	conns     int
	way, here map[place]string
	closed    map[place]bool
}

func newModel() *model {
	return &model{way: map[place]string{}, here: map[place]string{}, closed: map[place]bool{}}
}

func (m *model) Dial() (int, api.Errno) {
	if m.conns == api.MaxConns {
		return 0, api.ErrLong
	}
	m.conns++
	return m.conns - 1, api.OK
}

func (m *model) wrong(conn, side int) api.Errno {
	switch {
	case conn < 0 || conn >= m.conns:
		return api.ErrNone
	case side < 0 || side > 1:
		return api.ErrRange
	}
	return api.OK
}

func (m *model) wrongMost(conn, side, most int) api.Errno {
	if e := m.wrong(conn, side); e != api.OK {
		return e
	}
	if most < 0 {
		return api.ErrRange
	}
	return api.OK
}

func (m *model) Write(conn, side int, data string) api.Errno {
	if e := m.wrong(conn, side); e != api.OK {
		return e
	}
	if m.closed[place{conn, side}] {
		return api.ErrClosed
	}
	other := place{conn, 1 - side}
	if len(m.way[other])+len(m.here[other])+len(data) > api.MaxBytes {
		return api.ErrLong
	}
	m.way[other] += data
	return api.OK
}

func (m *model) Arrive(conn, side, most int) (int, api.Errno) {
	if e := m.wrongMost(conn, side, most); e != api.OK {
		return 0, e
	}
	p := place{conn, side}
	most = min(most, len(m.way[p]))
	m.here[p] += m.way[p][:most]
	m.way[p] = m.way[p][most:]
	return most, api.OK
}

func (m *model) Read(conn, side, most int) (string, api.Errno) {
	if e := m.wrongMost(conn, side, most); e != api.OK {
		return "", e
	}
	p := place{conn, side}
	most = min(most, len(m.here[p]))
	taken := m.here[p][:most]
	m.here[p] = m.here[p][most:]
	return taken, api.OK
}

func (m *model) Close(conn, side int) api.Errno {
	if e := m.wrong(conn, side); e != api.OK {
		return e
	}
	if m.closed[place{conn, side}] {
		return api.ErrClosed
	}
	m.closed[place{conn, side}] = true
	return api.OK
}

func (m *model) Ended(conn, side int) (bool, api.Errno) {
	if e := m.wrong(conn, side); e != api.OK {
		return false, e
	}
	p := place{conn, side}
	return m.closed[place{conn, 1 - side}] && m.way[p] == "" && m.here[p] == "", api.OK
}

func (m *model) Pending(conn, side int) (way, here int, e api.Errno) {
	if e := m.wrong(conn, side); e != api.OK {
		return 0, 0, e
	}
	p := place{conn, side}
	return len(m.way[p]), len(m.here[p]), api.OK
}

// net is what a script runs on: the package's, or the model.
type net interface {
	Dial() (int, api.Errno)
	Write(conn, side int, data string) api.Errno
	Arrive(conn, side, most int) (int, api.Errno)
	Read(conn, side, most int) (string, api.Errno)
	Close(conn, side int) api.Errno
	Ended(conn, side int) (bool, api.Errno)
	Pending(conn, side int) (way, here int, e api.Errno)
}

// step is one call of a script, and tells all that the call answered.
type step func(n net) string

func randomMost(r *rand.Rand) int {
	switch r.Intn(12) {
	case 0:
		return -1 - r.Intn(3)
	case 1:
		return 0
	case 2:
		return math.MaxInt
	case 3:
		return r.Intn(2 * api.MaxBytes)
	}
	return r.Intn(12)
}

func randomData(r *rand.Rand, big bool) string {
	size := r.Intn(10)
	if big && r.Intn(4) == 0 {
		size = r.Intn(api.MaxBytes + 3)
	}
	data := make([]byte, size)
	r.Read(data)
	return string(data)
}

// randomStep draws a call: mostly of connections and sides that there are, closing seldom so that there is something to close.
func randomStep(r *rand.Rand, big bool) (string, step) {
	conn, side := r.Intn(4), r.Intn(2)
	if r.Intn(20) == 0 {
		conn = r.Intn(70) - 2
	}
	if r.Intn(20) == 0 {
		side = r.Intn(4) - 1
	}
	most, data := randomMost(r), randomData(r, big)
	at := fmt.Sprint(conn, " ", side)
	switch r.Intn(24) {
	case 0:
		return "Dial", func(n net) string { return fmt.Sprint(n.Dial()) }
	case 1:
		return "Close " + at, func(n net) string { return fmt.Sprint(n.Close(conn, side)) }
	case 2, 3:
		return "Ended " + at, func(n net) string { return fmt.Sprint(n.Ended(conn, side)) }
	case 4, 5, 6:
		return "Pending " + at, func(n net) string { return fmt.Sprint(n.Pending(conn, side)) }
	case 7, 8, 9, 10, 11:
		return fmt.Sprint("Arrive ", at, " ", most), func(n net) string { return fmt.Sprint(n.Arrive(conn, side, most)) }
	case 12, 13, 14, 15, 16:
		return fmt.Sprint("Read ", at, " ", most), func(n net) string { return fmt.Sprint(n.Read(conn, side, most)) }
	}
	return "Write " + at + " " + short(data), func(n net) string { return fmt.Sprint(n.Write(conn, side, data)) }
}

// same runs one script on the package and on the model, till they part.
func same(t *testing.T, r *rand.Rand, conns, steps int, big bool) {
	t.Helper()
	n, m := net(stream.New()), net(newModel())
	for range conns {
		n.Dial()
		m.Dial()
	}
	var told []string
	for range steps {
		name, do := randomStep(r, big)
		got, want := do(n), do(m)
		told = append(told, name)
		if got != want {
			t.Fatalf("%s: %s, not %s; behind:\n%s", name, short(got), short(want), strings.Join(told, "\n"))
		}
	}
}

// 2.1 to 2.3, call by call.

func TestAsTheModel(t *testing.T) {
	for seed := range int64(400) {
		same(t, rand.New(rand.NewSource(seed)), int(seed%5), 300, false)
	}
}

func TestAsTheModelWhenFull(t *testing.T) {
	for seed := range int64(30) {
		same(t, rand.New(rand.NewSource(seed)), 2, 150, true)
	}
}

func TestAsTheModelWithAllConnections(t *testing.T) {
	for seed := range int64(20) {
		same(t, rand.New(rand.NewSource(seed)), api.MaxConns-2, 600, false)
	}
}

// 2.4: all that was written comes out, in order, however it is cut, in all directions at once.

// carried is what a direction was given and what came out of it.
type carried struct {
	written, read strings.Builder
	numbers       int
}

// give writes bytes of which no two neighbourhoods are alike, so that one lost, doubled or swapped is seen.
func (c *carried) give(t *testing.T, n *stream.Net, from place, pieces int) {
	t.Helper()
	for range pieces {
		c.numbers++
		data := fmt.Sprintf("<%d %d %d>", from.conn, from.side, c.numbers)
		if e := n.Write(from.conn, from.side, data); e != api.OK {
			t.Fatalf("write %d %d: %d", from.conn, from.side, e)
		}
		c.written.WriteString(data)
	}
}

func (c *carried) take(t *testing.T, n *stream.Net, from place, arrive, most int) {
	t.Helper()
	if _, e := n.Arrive(from.conn, 1-from.side, arrive); e != api.OK {
		t.Fatalf("arrive at %d %d: %d", from.conn, 1-from.side, e)
	}
	data, e := n.Read(from.conn, 1-from.side, most)
	if e != api.OK {
		t.Fatalf("read at %d %d: %d", from.conn, 1-from.side, e)
	}
	c.read.WriteString(data)
}

func TestReadIsWhatWasWritten(t *testing.T) {
	const conns = 3
	for seed := range int64(60) {
		r := rand.New(rand.NewSource(seed))
		n := dialled(t, conns)
		all := map[place]*carried{}
		for conn := range conns {
			all[place{conn, 0}], all[place{conn, 1}] = &carried{}, &carried{}
		}
		for range 500 {
			from := place{r.Intn(conns), r.Intn(2)}
			all[from].give(t, n, from, r.Intn(4))
			from = place{r.Intn(conns), r.Intn(2)}
			all[from].take(t, n, from, r.Intn(30), r.Intn(30))
		}
		for from, c := range all {
			must(t, "close", n.Close(from.conn, from.side), api.OK)
			c.take(t, n, from, math.MaxInt, math.MaxInt)
			ended(t, n, from.conn, 1-from.side, true)
			if c.read.String() != c.written.String() {
				t.Errorf("seed %d: from %d %d: what was read is not what was written", seed, from.conn, from.side)
			}
		}
	}
}

// Much more than fits at once goes through, byte by byte and in great pieces.
func TestMuchGoesThrough(t *testing.T) {
	n := dialled(t, 1)
	piece := func(i int) string { return strings.Repeat(string([]byte{byte(i)}), api.MaxBytes/4) }
	for i := range 4 {
		write(t, n, 0, 0, piece(i))
	}
	arrive(t, n, 0, 1, api.MaxBytes/2, api.MaxBytes/2)
	for i := range 40 {
		read(t, n, 0, 1, api.MaxBytes/4, piece(i))
		write(t, n, 0, 0, piece(i+4))
		must(t, "no room", n.Write(0, 0, "x"), api.ErrLong)
		arrive(t, n, 0, 1, api.MaxBytes/4, api.MaxBytes/4)
		pending(t, n, 0, 1, api.MaxBytes/2, api.MaxBytes/2)
	}
	arrive(t, n, 0, 1, math.MaxInt, api.MaxBytes/2)
	for i := range api.MaxBytes {
		data, e := n.Read(0, 1, 1)
		if e != api.OK || data != string([]byte{byte(40 + i/(api.MaxBytes/4))}) {
			t.Fatalf("byte %d: %q %d", i, data, e)
		}
	}
	pending(t, n, 0, 1, 0, 0)
}
