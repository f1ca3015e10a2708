package node_test

import (
	"fmt"
	"math"
	"math/rand"
	"slices"
	"sort"
	"strings"
	"testing"

	"hopper/api"
	"hopper/node"
)

// model is the chapter's words, written out as plainly as may be: it keeps lists of slots, not words, and a map of what lies in them.
type model struct {
	used, free      []int
	lies            map[int]pair
	inserts, splits int
}

type pair struct {
	key   string
	value int
}

func newModel() *model { return &model{free: upTo(slots), lies: map[int]pair{}} }

func (m *model) at(key string) (int, bool) {
	for at, slot := range m.used {
		if m.lies[slot].key == key {
			return at, true
		}
	}
	return 0, false
}

func (m *model) Put(key string, value int) (int, bool, api.Errno) {
	if len(key) > 4096 {
		return 0, false, api.ErrLong
	}
	if at, there := m.at(key); there {
		was := m.lies[m.used[at]].value
		m.lies[m.used[at]] = pair{key, value}
		return was, true, api.OK
	}
	if len(m.used) == 15 {
		return 0, false, api.ErrFull
	}
	m.lies[m.free[0]] = pair{key, value}
	m.used = append(m.used, m.free[0])
	m.free = m.free[1:]
	sort.Slice(m.used, func(i, j int) bool { return m.lies[m.used[i]].key < m.lies[m.used[j]].key })
	m.inserts++
	return 0, false, api.OK
}

func (m *model) Get(key string) (int, bool) {
	at, there := m.at(key)
	if !there {
		return 0, false
	}
	return m.lies[m.used[at]].value, true
}

func (m *model) Take(key string) (int, api.Errno) {
	at, there := m.at(key)
	if !there {
		return 0, api.ErrNone
	}
	slot := m.used[at]
	m.used = append(append([]int{}, m.used[:at]...), m.used[at+1:]...)
	m.free = append([]int{slot}, m.free...)
	m.inserts++
	return m.lies[slot].value, api.OK
}

func (m *model) Keys() []string {
	var list []string
	for _, slot := range m.used {
		list = append(list, m.lies[slot].key)
	}
	return list
}

func (m *model) Split() (keeper, string, api.Errno) {
	list := m.Keys()
	if len(list) < 2 {
		return nil, "", api.ErrShape
	}
	goes := list[(len(list)+1)/2:]
	right := newModel()
	for _, key := range goes {
		value, _ := m.Get(key)
		right.Put(key, value)
	}
	for i := range goes {
		m.Take(goes[len(goes)-1-i])
	}
	m.splits++
	return right, goes[0], api.OK
}

func (m *model) Order() uint64 { return word(len(m.used), append(slices.Clone(m.used), m.free...)) }

func (m *model) Counts() (int, int) { return m.inserts, m.splits }

// keeper is what a script runs on: the package's node, or the model.
type keeper interface {
	Put(key string, value int) (int, bool, api.Errno)
	Get(key string) (int, bool)
	Take(key string) (int, api.Errno)
	Keys() []string
	Split() (keeper, string, api.Errno)
	Order() uint64
	Counts() (int, int)
}

// built is the package's node as a keeper.
type built struct{ *node.Node }

func (b built) Split() (keeper, string, api.Errno) {
	right, least, e := b.Node.Split()
	if right == nil {
		return nil, least, e
	}
	return built{right}, least, e
}

// drawn is how often each answer was drawn: a script that never meets an edge shows nothing of it.
type drawn map[string]int

func (d drawn) enough(t *testing.T, least int, names ...string) {
	t.Helper()
	for _, name := range names {
		if d[name] < least {
			t.Errorf("%s: only drawn %d times", name, d[name])
		}
	}
}

// looks is all that a keeper tells of itself.
func looks(x keeper) string {
	inserts, splits := x.Counts()
	return fmt.Sprintf("%#x %d %d %q", x.Order(), inserts, splits, x.Keys())
}

// Made once: they are drawn from often.
var longOnes = append(noKeys(), long(api.MaxText), long(api.MaxText-1), long(api.MaxText-1)+"a")

// randomKey is of few bytes mostly, so that keys meet again, and some begin with others.
func randomKey(r *rand.Rand) string {
	if r.Intn(40) == 0 {
		return longOnes[r.Intn(len(longOnes))]
	}
	list := make([]byte, r.Intn(3))
	for i := range list {
		list[i] = []byte{0, 1, 'a', 'b', 127, 128, 254, 255}[r.Intn(8)]
	}
	return string(list)
}

// oneThatIsThere is a key that the keeper tells, or any if it has none.
func oneThatIsThere(r *rand.Rand, x keeper) string {
	if list := x.Keys(); len(list) > 0 {
		return list[r.Intn(len(list))]
	}
	return randomKey(r)
}

func randomValue(r *rand.Rand) int {
	if r.Intn(10) == 0 {
		return []int{0, 1, -1, math.MinInt, math.MaxInt}[r.Intn(5)]
	}
	return int(r.Uint64())
}

// step runs one drawn call on both, and tells what each of them answered; a split's new nodes, too.
func step(r *rand.Rand, x, m keeper, d drawn) (name, got, want string, right, other keeper) {
	key := randomKey(r)
	if r.Intn(3) == 0 {
		key = oneThatIsThere(r, m)
	}
	switch r.Intn(20) {
	default:
		value := randomValue(r)
		name = fmt.Sprintf("Put %.40q %d", key, value)
		was, there, e := x.Put(key, value)
		mWas, mThere, mE := m.Put(key, value)
		got, want = fmt.Sprint(was, there, e), fmt.Sprint(mWas, mThere, mE)
		d[fmt.Sprint("Put ", there, " ", e)]++
	case 0, 1:
		name = fmt.Sprintf("Get %.40q", key)
		got, want = fmt.Sprint(x.Get(key)), fmt.Sprint(m.Get(key))
		_, there := x.Get(key)
		d[fmt.Sprint("Get ", there)]++
	case 2, 3, 4, 5, 6:
		name = fmt.Sprintf("Take %.40q", key)
		was, e := x.Take(key)
		mWas, mE := m.Take(key)
		got, want = fmt.Sprint(was, e), fmt.Sprint(mWas, mE)
		d[fmt.Sprint("Take ", e)]++
	case 7:
		if r.Intn(3) > 0 {
			return "Keys", fmt.Sprint(x.Keys()), fmt.Sprint(m.Keys()), nil, nil
		}
		name = "Split"
		many := len(m.Keys())
		var least, mLeast string
		var e, mE api.Errno
		right, least, e = x.Split()
		other, mLeast, mE = m.Split()
		got, want = fmt.Sprintf("%t %q %d", right != nil, least, e), fmt.Sprintf("%t %q %d", other != nil, mLeast, mE)
		d[fmt.Sprint("Split of ", many)]++
	}
	return name, got, want, right, other
}

// together runs a script on nodes and models, step by step, and fails where they part.
func together(t *testing.T, r *rand.Rand, steps int, d drawn) {
	t.Helper()
	ours, models := []keeper{built{node.New()}}, []keeper{newModel()}
	for i := range steps {
		one := r.Intn(len(ours))
		name, got, want, right, other := step(r, ours[one], models[one], d)
		if got != want {
			t.Fatalf("step %d, the node %d, %s: %.300s, not %.300s", i, one, name, got, want)
		}
		if right != nil && len(ours) < 4 {
			ours, models = append(ours, right), append(models, other)
		}
		// All of them: a call leaves the other nodes as they are.
		for j := range ours {
			if a, b := looks(ours[j]), looks(models[j]); a != b {
				t.Fatalf("step %d, the node %d, %s: the node %d is %.400s, not %.400s", i, one, name, j, a, b)
			}
		}
		if right != nil && looks(right) != looks(other) {
			t.Fatalf("step %d, the node %d, %s: the new node is %.400s, not %.400s", i, one, name, looks(right), looks(other))
		}
	}
	for j := range ours {
		for _, key := range models[j].Keys() {
			if a, b := fmt.Sprint(ours[j].Get(key)), fmt.Sprint(models[j].Get(key)); a != b {
				t.Fatalf("at the end, the node %d, Get %.40q: %s, not %s", j, key, a, b)
			}
		}
	}
}

func TestLikeTheModel(t *testing.T) {
	d := drawn{}
	for seed := range int64(300) {
		together(t, rand.New(rand.NewSource(seed)), 250, d)
	}
	d.enough(t, 500, "Put false 0", "Put true 0", "Put false 120", "Put false 2", "Get true", "Get false", "Take 0", "Take 5")
	for many := range slots + 1 {
		d.enough(t, 5, fmt.Sprint("Split of ", many))
	}
}

// 12.1: drawn words go from one to the next as lists of slots do.
func TestWordsLikeLists(t *testing.T) {
	d := drawn{}
	for seed := range int64(300) {
		r := rand.New(rand.NewSource(seed))
		used, order := r.Intn(slots+1), r.Perm(slots)
		for range 100 {
			at := r.Intn(20) - 2
			w := word(used, order)
			if r.Intn(2) == 0 {
				next, slot, e := node.Insert(w, at)
				switch {
				case used == 15:
					insert(t, w, at, 0, 0, api.ErrFull)
				case at < 0 || at > used:
					insert(t, w, at, 0, 0, api.ErrRange)
				default:
					first := order[used]
					order = slices.Insert(slices.Delete(order, used, used+1), at, first)
					used++
					if next != word(used, order) || slot != first || e != api.OK {
						t.Fatalf("Insert of %#x at %d: %#x %d %d", w, at, next, slot, e)
					}
				}
				d[fmt.Sprint("Insert ", e)]++
				continue
			}
			next, slot, e := node.Remove(w, at)
			if at < 0 || at >= used {
				remove(t, w, at, 0, 0, api.ErrRange)
			} else {
				gone := order[at]
				used--
				order = slices.Insert(slices.Delete(order, at, at+1), used, gone)
				if next != word(used, order) || slot != gone || e != api.OK {
					t.Fatalf("Remove of %#x at %d: %#x %d %d", w, at, next, slot, e)
				}
			}
			d[fmt.Sprint("Remove ", e)]++
		}
	}
	d.enough(t, 500, "Insert 0", "Insert 1", "Insert 120", "Remove 0", "Remove 1")
}

// 12.1: drawn words, most of which may not be, are told as a count of their slots tells it.
func TestCheckOfDrawnWords(t *testing.T) {
	d := drawn{}
	r := rand.New(rand.NewSource(1))
	for range 100000 {
		order := r.Perm(slots)
		for range r.Intn(3) {
			order[r.Intn(slots)] = r.Intn(16)
		}
		w := word(r.Intn(16), order)
		if r.Intn(10) == 0 {
			w = r.Uint64()
		}
		_, told := apart(w)
		slices.Sort(told)
		want := api.ErrShape
		if slices.Equal(told, upTo(slots)) {
			want = api.OK
		}
		check(t, w, want)
		d[fmt.Sprint(want)]++
	}
	d.enough(t, 10000, "0", "4")
}

// follower holds what a node tells against what it told ahead.
type follower struct {
	n      *node.Node
	counts [2]int
	keys   []string
	same   int // how often the counts were as they had been
}

func (f *follower) look(t *testing.T) {
	t.Helper()
	inserts, splits := f.n.Counts()
	list := f.n.Keys()
	used, told := apart(f.n.Order())
	if used != len(list) || node.Check(f.n.Order()) != api.OK {
		t.Fatalf("the word %#x of %d keys: slots %v", f.n.Order(), len(list), told)
	}
	for i := 1; i < len(list); i++ {
		if strings.Compare(list[i-1], list[i]) != -1 {
			t.Fatalf("the keys %.40q and %.40q stand side by side", list[i-1], list[i])
		}
	}
	if inserts < f.counts[0] || splits < f.counts[1] {
		t.Fatalf("the counts fell from %v to %d, %d", f.counts, inserts, splits)
	}
	if f.counts == [2]int{inserts, splits} {
		f.same++
		if !slices.Equal(f.keys, list) {
			t.Fatalf("at the counts %v the keys were %q, and are %q", f.counts, f.keys, list)
		}
	}
	f.counts, f.keys = [2]int{inserts, splits}, list
}

// 12.4: what follows.
func TestWhatFollows(t *testing.T) {
	same := 0
	for seed := range int64(200) {
		r := rand.New(rand.NewSource(seed))
		f := &follower{n: node.New()}
		for range 300 {
			key := randomKey(r)
			switch r.Intn(10) {
			default:
				f.n.Put(key, randomValue(r))
			case 0, 1:
				f.n.Take(key)
			case 2:
				f.n.Take(oneThatIsThere(r, built{f.n}))
			case 3:
				f.n.Get(key)
			case 4:
				if r.Intn(4) > 0 {
					continue
				}
				right, _, e := f.n.Split()
				if e == api.OK && r.Intn(2) == 0 {
					f.look(t)
					f = &follower{n: right, same: f.same}
				}
			}
			f.look(t)
		}
		same += f.same
	}
	if same < 5000 {
		t.Errorf("only %d times the counts were as they had been", same)
	}
}

// P1: every call ends and none panics.
func TestNothingPanics(t *testing.T) {
	places := append(odd(), upTo(17)...)
	bits := append(badWords(), empty, empty+1, empty+14, empty+15)
	for bit := range 64 {
		bits = append(bits, 1<<bit, 1<<bit-1, empty^1<<bit)
	}
	for _, w := range bits {
		node.Check(w)
		for _, at := range places {
			node.Insert(w, at)
			node.Remove(w, at)
		}
	}
	n := node.New()
	for i := range 200 {
		key := longOnes[i%len(longOnes)]
		n.Put(key[:i*i%len(key)], places[i%len(places)])
		n.Put(key, i)
		n.Get(key)
		n.Take(longOnes[i*7%len(longOnes)])
		n.Keys()
		if right, _, e := n.Split(); e == api.OK {
			n = right
		}
	}
}
