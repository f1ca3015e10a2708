package session_test

import (
	"math/big"
	"math/rand"
	"slices"
	"strings"
	"testing"

	"hopper/api"
	"hopper/auth"
	"hopper/mess"
)

// model is the chapter's words, written out as plainly as may be: it keeps all bytes that it was ever given, and goes over them anew with each Feed. Since keys may change between, it keeps as well what came of each proof.
type model struct {
	keys   map[string]string
	draw   uint64
	number int
	all    string
	told   int   // bytes of replies that were told
	passed int   // requests that were passed on
	proofs []int // of each proof that was asked: 1 if it was right
	closed bool
}

// way is what comes of all bytes from the beginning on.
type way struct {
	phase, name, out string
	passed           []api.Request
	proofs           int
}

func (w *way) refuse(id int, code api.Errno) {
	w.out += refusal(id, code)
	w.phase = "closed"
}

func (m *model) isRight(at int, name, text string) bool {
	if at == len(m.proofs) {
		key, there := m.keys[name]
		right := 0
		if there && text == libraryProof(key, name, libraryChallenge(m.draw, m.number)) {
			right = 1
		}
		m.proofs = append(m.proofs, right)
	}
	return m.proofs[at] == 1
}

func (m *model) body(w *way, b string) {
	x, e := mess.Asked(b)
	switch {
	case e != api.OK:
		w.refuse(0, 80)
	case x.Kind == api.MBye:
		w.out += reply(3, x.Id, 0, "")
		w.phase = "closed"
	case w.phase == "new" && x.Kind == api.MHello:
		w.out += reply(1, x.Id, 0, libraryChallenge(m.draw, m.number))
		w.phase, w.name = "challenged", x.Name
	case w.phase == "challenged" && x.Kind == api.MProof:
		w.proofs++
		if !m.isRight(w.proofs-1, w.name, x.Text) {
			w.refuse(x.Id, 250)
			return
		}
		w.out += reply(2, x.Id, 0, "")
		w.phase = "known"
	case w.phase == "known" && slices.Contains([]int{3, 4, 5, 6, 7}, x.Kind):
		w.passed = append(w.passed, x)
	default:
		w.refuse(x.Id, 260)
	}
}

func (m *model) walk() way {
	w := way{phase: "new"}
	for rest := m.all; len(rest) >= 4 && w.phase != "closed"; {
		n := int(new(big.Int).SetBytes([]byte(rest[:4])).Int64())
		if n > 65536 {
			w.refuse(0, 70)
		} else if len(rest) < 4+n {
			break
		} else {
			m.body(&w, rest[4:4+n])
			rest = rest[4+n:]
		}
	}
	return w
}

func (m *model) feed(b string) (string, []api.Request, api.Errno) {
	if m.closed {
		return "", nil, 20
	}
	if len(b) > 262144 {
		return "", nil, 2
	}
	m.all += b
	w := m.walk()
	out, passed := w.out[m.told:], w.passed[m.passed:]
	m.told, m.passed, m.closed = len(w.out), len(w.passed), w.phase == "closed"
	return out, passed, 0
}

func (m *model) tells() (int, string) {
	w := m.walk()
	phase := slices.Index([]string{"new", "challenged", "known", "closed"}, w.phase)
	if w.phase == "known" {
		return phase, w.name
	}
	return phase, ""
}

func pick[T any](r *rand.Rand, list []T) T { return list[r.Intn(len(list))] }

// drawPacket answers one that goes on with the way, for the most part, and now and then another one.
func drawPacket(r *rand.Rand, m *model, step int) string {
	id := pick(r, []int{0, 1, 5, api.MaxEpoch})
	name := pick(r, []string{"ann", "ann", "ann", "bob", "cat", ""})
	switch r.Intn(60) {
	case 0:
		return bye(id)
	case 1:
		return length(api.MaxFrame + 1 + uint32(r.Intn(1000)))
	case 2:
		return packed(mixed(r.Intn(40)))
	case 3:
		x := pick(r, someRequests())
		return packed(body(x)[r.Intn(2):] + strings.Repeat("\x00", r.Intn(2)))
	case 4, 5:
		x := pick(r, someRequests())
		x.Id = id
		return asking(x)
	}
	switch step {
	case 0:
		return hello(id, name)
	case 1:
		return proving(id, drawProof(r, m))
	}
	x := pick(r, passing())
	x.Id = id
	return asking(x)
}

func drawProof(r *rand.Rand, m *model) string {
	key := pick(r, []string{"k", "k", "k", "k", "x"})
	name := pick(r, []string{"ann", "ann", "ann", "bob"})
	proof := libraryProof(key, name, libraryChallenge(m.draw, m.number))
	if r.Intn(12) == 0 {
		return proof[:r.Intn(33)]
	}
	return proof
}

func drawStream(r *rand.Rand, m *model) string {
	var out strings.Builder
	for step := range r.Intn(9) {
		out.WriteString(drawPacket(r, m, step))
	}
	if r.Intn(4) == 0 {
		b := bye(1)
		out.WriteString(b[:r.Intn(len(b))])
	}
	return out.String()
}

// drawPieces cuts bytes at drawn places.
func drawPieces(r *rand.Rand, b string) []string {
	var out []string
	size := pick(r, []int{3, 30, 80, 1000, 1000, 70000})
	for len(b) > 0 {
		n := min(len(b), 1+r.Intn(size))
		out = append(out, b[:n])
		b = b[n:]
	}
	return append(out, "", bye(2))
}

// drawChange changes the keys of some tables and their model alike.
func drawChange(r *rand.Rand, k *auth.Keys, keys map[string]string) {
	name := pick(r, []string{"ann", "bob"})
	if r.Intn(2) == 0 {
		k.Take(name)
		delete(keys, name)
		return
	}
	key := pick(r, []string{"k", "k", "x"})
	k.Put(name, key)
	keys[name] = key
}

// Some sessions of one table by turns, with models beside them.
func TestLikeTheModel(t *testing.T) {
	r := rand.New(rand.NewSource(26))
	seen := map[string]int{}
	tooMany := strings.Repeat("x", api.MaxBytes+1)
	for range 3000 {
		k, keys := keysOf("ann", "k", "bob", "k"), map[string]string{"ann": "k", "bob": "k"}
		lines, models, pieces := []*line{}, []*model{}, [][]string{}
		for at := range 3 {
			m := &model{keys: keys, draw: uint64(r.Intn(3)), number: at}
			models = append(models, m)
			lines = append(lines, open(t, k, m.draw, m.number))
			pieces = append(pieces, drawPieces(r, drawStream(r, m)))
		}
		for len(pieces[0])+len(pieces[1])+len(pieces[2]) > 0 {
			if r.Intn(8) == 0 {
				drawChange(r, k, keys)
			}
			at := r.Intn(3)
			if len(pieces[at]) == 0 {
				continue
			}
			piece := pieces[at][0]
			if r.Intn(20) == 0 {
				piece = tooMany
			} else {
				pieces[at] = pieces[at][1:]
			}
			follow(t, lines[at], models[at], piece, seen)
			for i, l := range lines {
				l.phase, l.name = models[i].tells()
				l.state()
			}
		}
	}
	enough(t, seen)
}

// follow feeds both, and counts what came of it.
func follow(t *testing.T, l *line, m *model, piece string, seen map[string]int) {
	t.Helper()
	out, passed, e := m.feed(piece)
	got, list, code := l.s.Feed(piece)
	if got != out || code != e {
		t.Fatalf("feed of %d bytes %.60q behind %d bytes %.300q: %q, %d; not %q, %d", len(piece), piece, len(m.all)-len(piece), m.all, got, code, out, e)
	}
	same(t, list, passed)
	seen["passed"] += len(passed)
	switch {
	case e == api.ErrLong:
		seen["long"]++
	case e == api.ErrClosed:
		seen["closed"]++
	}
	for _, what := range []struct{ name, b string }{
		{"challenge", num(1)}, {"welcome", num(2)}, {"done", num(3)}, {"frame", num(int(api.ErrFrame))}, {"message", num(int(api.ErrMessage))}, {"auth", num(int(api.ErrAuth))}, {"phase", num(int(api.ErrPhase))},
	} {
		for rest := out; rest != ""; rest = rest[4+int(rest[3]):] {
			kind, field := rest[4:12], rest[4:12]
			if kind == num(4) {
				field = rest[20:28]
			}
			if field == what.b {
				seen[what.name]++
			}
		}
	}
}

func enough(t *testing.T, seen map[string]int) {
	t.Helper()
	for _, what := range []string{"passed", "long", "closed", "challenge", "welcome", "done", "frame", "message", "auth", "phase"} {
		if seen[what] < 100 {
			t.Errorf("%s: %d times", what, seen[what])
		}
	}
}
