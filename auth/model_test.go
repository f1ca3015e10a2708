package auth_test

import (
	"fmt"
	"math/rand"
	"slices"
	"strings"
	"testing"

	"hopper/api"
	"hopper/auth"
)

// model is the chapter's words, written out as plainly as may be: names beside their keys, in no order.
type model struct {
	names, keys []string
}

func (m *model) Put(name, key string) api.Errno {
	at := slices.Index(m.names, name)
	switch {
	case !maybe.MatchString(name):
		return api.ErrName
	case key == "" || len(key) > 64 || at < 0 && len(m.names) == 4096:
		return api.ErrLong
	case at < 0:
		m.names, m.keys = append(m.names, name), append(m.keys, key)
	default:
		m.keys[at] = key
	}
	return api.OK
}

func (m *model) Take(name string) api.Errno {
	at := slices.Index(m.names, name)
	if at < 0 {
		return api.ErrNone
	}
	m.names, m.keys = slices.Delete(m.names, at, at+1), slices.Delete(m.keys, at, at+1)
	return api.OK
}

func (m *model) Names() []string {
	out := slices.Clone(m.names)
	slices.SortFunc(out, strings.Compare)
	return out
}

func (m *model) Check(name, challenge, proof string) api.Errno {
	at := slices.Index(m.names, name)
	if at < 0 || proof != libraryProof(m.keys[at], name, challenge) {
		return api.ErrAuth
	}
	return api.OK
}

// table is what both, the package's and the model, can do.
type table interface {
	Put(name, key string) api.Errno
	Take(name string) api.Errno
	Names() []string
	Check(name, challenge, proof string) api.Errno
}

func pick(r *rand.Rand, list []string) string { return list[r.Intn(len(list))] }

// act draws a call, and answers what it is and how to make it.
func act(r *rand.Rand, names, keys []string) (string, func(x table) string) {
	name, key := pick(r, names), pick(r, keys)
	switch n := r.Intn(20); {
	case n < 7:
		return fmt.Sprintf("Put %q %q", name, key), func(x table) string { return fmt.Sprint(x.Put(name, key)) }
	case n < 10:
		return fmt.Sprintf("Take %q", name), func(x table) string { return fmt.Sprint(x.Take(name)) }
	case n < 12:
		return "Names", func(x table) string { return fmt.Sprint(x.Names()) }
	default:
		challenge := libraryChallenge(uint64(r.Intn(2)), r.Intn(2))
		proof := drawProof(r, key, name, challenge, names)
		return fmt.Sprintf("Check %q %x %x", name, challenge, proof), func(x table) string { return fmt.Sprint(x.Check(name, challenge, proof)) }
	}
}

// drawProof answers the proof, for the most part, and now and then another one.
func drawProof(r *rand.Rand, key, name, challenge string, names []string) string {
	switch r.Intn(10) {
	case 0:
		return libraryProof(key, pick(r, names), challenge)
	case 1:
		return libraryProof(key, name, libraryChallenge(uint64(r.Intn(2)), r.Intn(2)))
	case 2:
		return libraryProof(key, name, challenge)[:r.Intn(33)]
	case 3:
		b := []byte(libraryProof(key, name, challenge))
		b[r.Intn(32)] ^= 1 << r.Intn(8)
		return string(b)
	}
	return libraryProof(key, name, challenge)
}

// follow makes drawn calls of some tables, and of as many models, by turns; all of them that have few names are asked for these behind each call.
func follow(t *testing.T, r *rand.Rand, tables []*auth.Keys, models []*model, names, keys []string, many int) map[string]int {
	t.Helper()
	told := map[string]int{}
	for at := range many {
		i := r.Intn(len(tables))
		what, do := act(r, names, keys)
		got, want := do(tables[i]), do(models[i])
		if got != want {
			t.Fatalf("call %d, of the table %d, %s: %.100s, not %.100s", at, i, what, got, want)
		}
		told[strings.Fields(what)[0]+want]++
		for j := range tables {
			if len(models[j].names) < 100 && !slices.Equal(tables[j].Names(), models[j].Names()) {
				t.Fatalf("call %d, of the table %d, %s: the table %d has %q, not %q", at, i, what, j, tables[j].Names(), models[j].Names())
			}
		}
	}
	return told
}

// happened looks whether drawn calls came to each of some answers often enough.
func happened(t *testing.T, told map[string]int, least int, answers ...string) {
	t.Helper()
	for _, answer := range answers {
		if told[answer] < least {
			t.Errorf("%s: %d times", answer, told[answer])
		}
	}
}

func TestLikeTheModel(t *testing.T) {
	names := []string{"a", "b", "ab", "a.b", ".", "0", strings.Repeat("z", 32), strings.Repeat("z", 33), "", "A", "a\x00"}
	keys := []string{"k", "k\x00", "x", "", strings.Repeat("k", 64), strings.Repeat("k", 65), "\xff"}
	told := map[string]int{}
	for seed := range int64(60) {
		tables, models := []*auth.Keys{auth.New(), auth.New(), auth.New()}, []*model{{}, {}, {}}
		r := rand.New(rand.NewSource(seed))
		for answer, n := range follow(t, r, tables, models, names, keys, 300) {
			told[answer] += n
		}
	}
	happened(t, told, 200, "Put0", "Put10", "Put2", "Take0", "Take5", "Check0", "Check250")
}

// Drawn calls of a table that is full, or nearly so.
func TestLikeTheModelWhenFull(t *testing.T) {
	k, m := auth.New(), &model{}
	names := numbered(api.MaxItems + 20)
	for _, name := range names[:api.MaxItems-2] {
		k.Put(name, "k")
		m.Put(name, "k")
	}
	r := rand.New(rand.NewSource(25))
	near := append(slices.Clone(names[api.MaxItems-10:]), names[0], names[1], "A", "")
	told := follow(t, r, []*auth.Keys{k}, []*model{m}, near, []string{"k", "x", "", mixed(65)}, 3000)
	happened(t, told, 50, "Put0", "Put2", "Put10", "Take0", "Take5", "Check0", "Check250")
	named(t, k, m.Names()...)
	if len(m.names) < api.MaxItems-10 {
		t.Error(len(m.names), "names are left")
	}
}

// drawText answers bytes of lengths near those that matter.
func drawText(r *rand.Rand) string {
	out := make([]byte, []int{0, 1, 3, 31, 32, 33, 63, 64, 65, 66, 100, 200}[r.Intn(12)])
	for at := range out {
		out[at] = "\x00\x01\xffkann."[r.Intn(8)]
	}
	return string(out)
}

func TestDrawnProofs(t *testing.T) {
	r := rand.New(rand.NewSource(26))
	for range 3000 {
		key, name, challenge := drawText(r), drawText(r), drawText(r)
		proved(t, key, name, challenge, libraryProof(key, name, challenge))
	}
}

func TestDrawnChallenges(t *testing.T) {
	r := rand.New(rand.NewSource(27))
	for range 3000 {
		draw, number := r.Uint64()>>r.Intn(64), int(r.Uint64())>>r.Intn(64)
		challenged(t, draw, number, libraryChallenge(draw, number))
	}
}
