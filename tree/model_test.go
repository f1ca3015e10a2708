package tree_test

import (
	"fmt"
	"math"
	"math/rand"
	"slices"
	"testing"

	"hopper/api"
	"hopper/tree"
)

// model is the chapter's words, written out as plainly as may be: all keys in one list, rising, and their values in a map. Of what was searched it keeps the keys that were told.
type model struct {
	rising []string
	values map[string]int
	past   []past
}

// past is a search that was done: what it told, and what Valid must tell of it.
type past struct {
	s       search
	seen    []api.Seen
	keys    []string
	touched bool // a key was put in or taken out since
	moved   bool // and it was one by which the search tells others
}

func newModel() *model { return &model{values: map[string]int{}} }

func (m *model) Put(key string, value int) (int, bool, api.Errno) {
	if len(key) > 4096 {
		return 0, false, api.ErrLong
	}
	if was, there := m.values[key]; there {
		m.values[key] = value
		return was, true, api.OK
	}
	if len(m.rising) == 4096 {
		return 0, false, api.ErrLong
	}
	m.values[key] = value
	at, _ := slices.BinarySearch(m.rising, key)
	m.change(slices.Insert(slices.Clone(m.rising), at, key))
	return 0, false, api.OK
}

func (m *model) Take(key string) (int, api.Errno) {
	was, there := m.values[key]
	if !there {
		return 0, api.ErrNone
	}
	delete(m.values, key)
	at, _ := slices.BinarySearch(m.rising, key)
	m.change(slices.Delete(slices.Clone(m.rising), at, at+1))
	return was, api.OK
}

func (m *model) Scan(from, to string, most int) ([]string, []int, api.Errno) {
	if most < 1 || most > 4096 {
		return nil, nil, api.ErrRange
	}
	keys := wanted(m.rising, from, to, most)
	var values []int
	for _, key := range keys {
		values = append(values, m.values[key])
	}
	return keys, values, api.OK
}

// change has other keys from now on, and notes it of all past searches.
func (m *model) change(rising []string) {
	for i := range m.past {
		p := &m.past[i]
		p.touched = true
		p.moved = p.moved || !slices.Equal(p.s.of(m.rising), p.s.of(rising))
	}
	m.rising = rising
}

// remember keeps a search; of many, those that were kept first are left out.
func (m *model) remember(s search, seen []api.Seen) {
	m.past = append(m.past, past{s: s, seen: seen, keys: s.of(m.rising)})
	if len(m.past) > 12 {
		m.past = m.past[1:]
	}
}

// drawn is how often each answer was drawn: a script that never meets an edge shows nothing of it.
type drawn map[string]int

func (d drawn) enough(t *testing.T, least int, names ...string) {
	t.Helper()
	for _, name := range names {
		if d[name] < least {
			t.Errorf("%s: only drawn %d times", name, d[name])
		}
	}
}

// Made once: they are drawn from often.
var longOnes = append(noKeys(), long(api.MaxText), long(api.MaxText-1), long(api.MaxText-1)+"a")

// pool draws keys of so many, so that they meet again.
type pool struct {
	r    *rand.Rand
	many int
}

func (p pool) key() string {
	switch p.r.Intn(20) {
	case 0:
		return longOnes[p.r.Intn(len(longOnes))]
	case 1:
		return byBytes()[p.r.Intn(len(byBytes()))]
	case 2:
		return name(p.r.Intn(p.many)) + "\x00"
	}
	return name(p.r.Intn(p.many))
}

// end is a from or a to: mostly a key, sometimes none.
func (p pool) end() string {
	if p.r.Intn(5) == 0 {
		return ""
	}
	return p.key()
}

func (p pool) most() int {
	switch p.r.Intn(8) {
	case 0:
		return []int{0, -1, math.MinInt, all + 1, math.MaxInt}[p.r.Intn(5)]
	case 1:
		return all
	}
	return 1 + p.r.Intn(1+p.r.Intn(40))
}

func (p pool) value() int {
	if p.r.Intn(10) == 0 {
		return []int{0, 1, -1, math.MinInt, math.MaxInt}[p.r.Intn(5)]
	}
	return int(p.r.Uint64())
}

// step runs one drawn call on both, and tells what each of them answered. Of ten calls that change the keys so many are Puts.
func step(p pool, puts int, x *tree.Tree, m *model, d drawn) (call, got, want string) {
	key := p.key()
	switch choice := p.r.Intn(10); {
	case choice < 6 && p.r.Intn(10) < puts:
		value := p.value()
		if len(m.rising) == all && len(key) <= api.MaxText {
			_, there := m.values[key]
			d[fmt.Sprint("Put into a full one, there ", there)]++
		}
		was, there, e := x.Put(key, value)
		mWas, mThere, mE := m.Put(key, value)
		d[fmt.Sprint("Put ", there, " ", e)]++
		return fmt.Sprintf("Put %.40q %d", key, value), fmt.Sprint(was, there, e), fmt.Sprint(mWas, mThere, mE)
	case choice < 6:
		was, e := x.Take(key)
		mWas, mE := m.Take(key)
		d[fmt.Sprint("Take ", e)]++
		return fmt.Sprintf("Take %.40q", key), fmt.Sprint(was, e), fmt.Sprint(mWas, mE)
	case choice < 8:
		value, there, seen := x.Get(key)
		mValue, mThere := m.values[key]
		m.remember(search{from: key}, seen)
		d[fmt.Sprint("Get ", there)]++
		return fmt.Sprintf("Get %.40q", key), fmt.Sprint(value, there), fmt.Sprint(mValue, mThere)
	}
	s := search{p.end(), p.end(), p.most()}
	keys, values, seen, e := x.Scan(s.from, s.to, s.most)
	mKeys, mValues, mE := m.Scan(s.from, s.to, s.most)
	if e == api.OK {
		m.remember(s, seen)
	}
	d[fmt.Sprint("Scan ", e, " none ", len(keys) == 0)]++
	return fmt.Sprintf("Scan %.40q %.40q %d", s.from, s.to, s.most), fmt.Sprintf("%q %d %d", keys, values, e), fmt.Sprintf("%q %d %d", mKeys, mValues, mE)
}

// lookBack holds what Valid tells of past searches against what it must tell, and, where that is true, what they tell now against what they told then.
func lookBack(t *testing.T, x *tree.Tree, m *model, d drawn) {
	t.Helper()
	for _, p := range m.past {
		is := x.Valid(p.seen)
		d[fmt.Sprint("Valid ", is, " touched ", p.touched, " moved ", p.moved)]++
		if is && p.moved || !is && !p.touched {
			t.Fatalf("%.80v: Valid is %t, touched: %t, moved: %t, %v", p.s, is, p.touched, p.moved, p.seen)
		}
		if !is {
			continue
		}
		// 13.4: what follows.
		if keys, _ := p.s.ask(x); !slices.Equal(keys, p.keys) {
			t.Fatalf("%.80v: Valid is true, and it told %.300q, but tells %.300q", p.s, p.keys, keys)
		}
	}
}

// together runs a script on a tree and a model, step by step, and fails where they part. Keys become more, then fewer, by turns.
func together(t *testing.T, p pool, steps int, x *tree.Tree, m *model, d drawn) {
	t.Helper()
	puts := 8
	for i := range steps {
		if p.r.Intn(150) == 0 {
			puts = 2 + p.r.Intn(8)
		}
		call, got, want := step(p, puts, x, m, d)
		if got != want {
			t.Fatalf("step %d of %d keys, %s: %.300s, not %.300s", i, p.many, call, got, want)
		}
		if x.Len() != len(m.rising) {
			t.Fatalf("step %d of %d keys, %s: Len %d, not %d", i, p.many, call, x.Len(), len(m.rising))
		}
		if p.r.Intn(3) == 0 {
			lookBack(t, x, m, d)
		}
	}
	keys, values, _, e := x.Scan("", "", all)
	mKeys, mValues, mE := m.Scan("", "", all)
	if got, want := fmt.Sprintf("%q %d %d", keys, values, e), fmt.Sprintf("%q %d %d", mKeys, mValues, mE); got != want {
		t.Fatalf("at the end, of %d keys: %.300s, not %.300s", p.many, got, want)
	}
}

func TestLikeTheModel(t *testing.T) {
	d := drawn{}
	for seed := range int64(160) {
		p := pool{rand.New(rand.NewSource(seed)), []int{4, 20, 40, 80, 300}[seed%5]}
		together(t, p, 500, tree.New(), newModel(), d)
	}
	d.enough(t, 500, "Put false 0", "Put true 0", "Put false 2", "Get true", "Get false", "Take 0", "Take 5", "Scan 0 none false", "Scan 0 none true", "Scan 1 none true",
		"Valid true touched false moved false", "Valid false touched true moved true", "Valid true touched true moved false", "Valid false touched true moved false")
}

// The same with nearly as many keys as may be: new ones are refused when there are just as many.
func TestLikeTheModelWhenItIsFull(t *testing.T) {
	d := drawn{}
	for seed := range int64(4) {
		x, m := tree.New(), newModel()
		p := pool{rand.New(rand.NewSource(seed)), 2 * all}
		for _, n := range p.r.Perm(2 * all)[:all-5] {
			x.Put(name(n), n)
			m.Put(name(n), n)
		}
		together(t, p, 400, x, m, d)
	}
	d.enough(t, 50, "Put into a full one, there false", "Put into a full one, there true", "Put false 0", "Take 0", "Valid true touched false moved false", "Valid false touched true moved true")
}
