package tree_test

import (
	"fmt"
	"math"
	"math/rand"
	"slices"
	"testing"

	"hopper/api"
	"hopper/tree"
)

// search is one that can be done again: a Scan, or, if most is 0, a Get of from.
type search struct {
	from, to string
	most     int
}

// ask tells the keys by which Valid goes (of a Get: its key, if it is there), and the nodes.
func (s search) ask(x *tree.Tree) (keys []string, seen []api.Seen) {
	if s.most > 0 {
		keys, _, seen, _ = x.Scan(s.from, s.to, s.most)
		return keys, seen
	}
	_, there, seen := x.Get(s.from)
	if there {
		keys = []string{s.from}
	}
	return keys, seen
}

// of tells the same keys by a list of all that there are.
func (s search) of(rising []string) []string {
	if s.most > 0 {
		return wanted(rising, s.from, s.to, s.most)
	}
	return wanted(rising, s.from, s.from+"\x00", 1)
}

// follow does a search, and a step behind it; what it tells is held against whether Valid must be true, or false.
func follow(t *testing.T, x *tree.Tree, s search, what string, want bool, step func()) {
	t.Helper()
	_, seen := s.ask(x)
	valid(t, x, seen, fmt.Sprint(s, " at once"))
	step()
	if x.Valid(seen) != want {
		t.Errorf("%v behind %s: Valid is not %t", s, what, want)
	}
}

// 13.3: a key that comes or goes, where each search is asked of the same keys.

func TestKeysThatCome(t *testing.T) {
	for _, c := range []struct {
		s   search
		key string
	}{
		{search{"b", "", 0}, "b"},
		{search{"", "", 0}, ""},
		{search{"c\x00", "", 0}, "c\x00"},
		{search{"zz", "", 0}, "zz"},
		{search{long(api.MaxText), "", 0}, long(api.MaxText)},
		{search{"b", "h", 9}, "b"},       // just at from
		{search{"b", "h", 9}, "b\x00"},   // at the beginning
		{search{"b", "h", 9}, "d"},       // in the middle
		{search{"b", "h", 9}, "g\x00"},   // at the end
		{search{"b", "h", 9}, "g\xff"},   // just ahead of to
		{search{"c", "g", 9}, "f"},       // from and to are there
		{search{"c", "g", 9}, "c\x00"},   // behind from
		{search{"", "", all}, ""},        // ahead of all
		{search{"", "", all}, "b"},       // between
		{search{"", "", all}, "\xff"},    // behind all
		{search{"", "b", all}, "\x00"},   // with no beginning
		{search{"f", "", all}, "h"},      // with no end
		{search{"h", "", all}, "z"},      // none was told, behind all
		{search{"h", "i", all}, "h"},     // none was told
		{search{"b", "c", 1}, "b"},       // none was told, between two
		{search{"", "a", all}, "A"},      // none was told, ahead of all
		{search{"a", "", 2}, "b"},        // most ended it at c: a key ahead of that one
		{search{"a", "", 2}, "a\x00"},    // at the beginning
		{search{"a", "", 2}, "b\xff"},    // just ahead of the last one
		{search{"b", "", 1}, "b"},        // the first one, though only one is told
		{search{"b", "h", 3}, "d"},       // just as many as there are
		{search{"b", "h", 4}, "g\x00"},   // one may come
		{search{"a", "h", 4}, "e\x00"},   // just as many as there are, ahead of the last one
		{search{"c", "g", all}, "c\xff"}, // as many as may be
	} {
		x := with(t, "e", "a", "g", "c")
		follow(t, x, c.s, fmt.Sprintf("Put %.40q", c.key), false, func() { put(t, x, c.key, 1) })
		// Put in and taken out again: it was there between.
		x = with(t, "e", "a", "g", "c")
		follow(t, x, c.s, fmt.Sprintf("Put and Take %.40q", c.key), false, func() {
			put(t, x, c.key, 1)
			take(t, x, c.key, 1)
		})
	}
}

func TestKeysThatGo(t *testing.T) {
	for _, c := range []struct {
		s   search
		key string
	}{
		{search{"a", "", 0}, "a"},
		{search{"e", "", 0}, "e"},
		{search{"g", "", 0}, "g"},
		{search{"b", "h", 9}, "c"},     // at the beginning
		{search{"c", "g", 9}, "c"},     // just at from
		{search{"b", "h", 9}, "e"},     // in the middle
		{search{"b", "h", 9}, "g"},     // at the end
		{search{"", "", all}, "a"},     // the first one
		{search{"", "", all}, "g"},     // the last one
		{search{"", "b", all}, "a"},    // with no beginning
		{search{"f", "", all}, "g"},    // with no end
		{search{"a", "", 2}, "a"},      // most ended it: another one moves up
		{search{"a", "", 2}, "c"},      // the last one of them
		{search{"", "", 1}, "a"},       // the only one that is told
		{search{"b", "h", 3}, "g"},     // just as many as there are
		{search{"b", "h", 4}, "g"},     // one fewer than might be told
		{search{"g", "g\x00", 1}, "g"}, // one key alone
	} {
		value := func(x *tree.Tree) int {
			value, _, _ := x.Get(c.key)
			return value
		}
		x := with(t, "e", "a", "g", "c")
		follow(t, x, c.s, "Take "+c.key, false, func() { take(t, x, c.key, value(x)) })
		x = with(t, "e", "a", "g", "c")
		follow(t, x, c.s, "Take and Put "+c.key, false, func() {
			was := value(x)
			take(t, x, c.key, was)
			put(t, x, c.key, was)
		})
	}
}

// 13.3: nothing but a key that is put in or taken out makes it false.
func TestWhatLeavesItTrue(t *testing.T) {
	for _, many := range []int{0, 1, 4, 15, 16, 100} {
		x := with(t, names(orders(many)["drawn 0"]...)...)
		for _, s := range []search{{name(0), "", 0}, {name(2), "", 0}, {name(many), "", 0}, {"", "", 0}, {long(api.MaxText + 1), "", 0}, {"", "", all}, {"", "", 1}, {name(1), name(3), 9}, {name(1), "", 2}, {"", name(2), 9},
			{name(3), name(3), 9}, {name(3), name(1), 9}, {name(many), name(0), 9}, {"\xff", "\xff\xff", 1}, {"\xff", "", 1}, {"\xff", "a", 1}, {"a", "\x00", 1}, {long(api.MaxText + 1), long(1 << 16), 3}} {
			follow(t, x, s, "nothing", true, func() {})
			follow(t, x, s, "searches", true, func() {
				x.Get(name(0))
				x.Get("none")
				x.Scan("", "", all)
				x.Scan("", "", 0)
				x.Len()
				x.Valid([]api.Seen{{Node: 1, Inserts: 1, Splits: 1}})
			})
			follow(t, x, s, "other values", true, func() {
				for n := range many {
					value, _, _ := x.Get(name(n))
					putAgain(t, x, name(n), -value, value)
					putAgain(t, x, name(n), -value, -value)
				}
			})
			follow(t, x, s, "calls that are refused", true, func() {
				notPut(t, x, long(api.MaxText+1))
				notTaken(t, x, "none")
				notTaken(t, x, long(api.MaxText+1))
				notScanned(t, x, "", "", all+1)
			})
		}
	}
}

// toggle takes a key out, or puts it in if it is not there, and tells all keys that there are then.
func toggle(x *tree.Tree, rising []string, key string) []string {
	rising = slices.Clone(rising)
	at, there := slices.BinarySearch(rising, key)
	if there {
		x.Take(key)
		return slices.Delete(rising, at, at+1)
	}
	x.Put(key, 1)
	return slices.Insert(rising, at, key)
}

// searchesOf are searches of the numbers up to last: all Gets, and Scans from and to every step-th number, of several lengths.
func searchesOf(last, step int) []search {
	list := []search{{"", "", all}, {"", "", 1}, {"", "", 8}, {"", "", 15}}
	for n := range last + 1 {
		list = append(list, search{name(n), "", 0})
	}
	for from := 0; from <= last; from += step {
		for _, most := range []int{1, 2, 8, all} {
			list = append(list, search{name(from), "", most}, search{"", name(from), most})
			for to := from + 1; to <= last; to += step {
				list = append(list, search{name(from), name(to), most})
			}
		}
	}
	return list
}

// grown is a tree with the keys of the odd numbers below twice many, put in in that order.
func grown(numbers []int) *tree.Tree {
	x := tree.New()
	for _, n := range numbers {
		x.Put(name(2*n+1), n)
	}
	return x
}

// thinned is the same, but there were more keys ahead, which were taken out: some nodes are gone.
func thinned(numbers []int) *tree.Tree {
	x := tree.New()
	for _, n := range numbers {
		for more := range 6 {
			x.Put(name(2*n+1)+fmt.Sprint(more), n)
		}
		x.Put(name(2*n+1), n)
	}
	for _, n := range numbers {
		for more := range 6 {
			x.Take(name(2*n+1) + fmt.Sprint(more))
		}
	}
	return x
}

// everyChange holds all searches against each key that can come or go, alone: Valid is false, if it is one of those that the search tells, or would have told; also when all is as it was again.
func everyChange(t *testing.T, many, step int, build func() *tree.Tree) {
	t.Helper()
	var rising []string
	for n := range many {
		rising = append(rising, name(2*n+1))
	}
	searches := searchesOf(2*many, step)
	before := make([][]string, len(searches))
	for i, s := range searches {
		before[i] = s.of(rising)
	}
	for change := range 2*many + 1 {
		x := build()
		told := make([][]api.Seen, len(searches))
		for i, s := range searches {
			_, told[i] = s.ask(x)
			if !x.Valid(told[i]) {
				t.Fatalf("%d keys, %v: not valid at once", many, s)
			}
		}
		after := toggle(x, rising, name(change))
		var moved []int
		for i, s := range searches {
			if !slices.Equal(before[i], s.of(after)) {
				moved = append(moved, i)
			}
		}
		for _, what := range []string{"a change", "a change there and back"} {
			for _, i := range moved {
				if x.Valid(told[i]) {
					t.Fatalf("%d keys, %v behind %s of %d: Valid is true: %v", many, searches[i], what, change, told[i])
				}
			}
			toggle(x, after, name(change))
		}
	}
}

// 13.3: a node is split by a Put, if it is full: with 15 keys, or 22 and more.
func TestEveryChange(t *testing.T) {
	for _, many := range []int{0, 1, 2, 7, 14, 15, 16, 22, 30} {
		for _, order := range []string{"rising", "falling", "drawn 0"} {
			numbers := orders(many)[order]
			everyChange(t, many, 1+many/5, func() *tree.Tree { return grown(numbers) })
			everyChange(t, many, 1+many/5, func() *tree.Tree { return thinned(numbers) })
		}
	}
	everyChange(t, 100, 23, func() *tree.Tree { return grown(orders(100)["drawn 2"]) })
	everyChange(t, 100, 23, func() *tree.Tree { return thinned(orders(100)["drawn 2"]) })
}

// 13.3: other keys come ahead of the one that counts, above it or below it, so that the node in which it lies, or would lie, is split by them, or is another one.
func TestChangesAheadOfTheOne(t *testing.T) {
	for _, many := range []int{0, 3, 14, 15, 16, 30} {
		for place := range 2*many + 1 {
			key, behind := name(place), name(place)+"\x00"
			searches := []search{{key, "", 0}, {key, behind, 1}, {key, name(place + 4), all}, {"", behind, all}, {key, "", all}}
			for _, others := range []string{name(place + 5), "!", fmt.Sprint(name(place), "a"), "~"} {
				for _, ahead := range []int{1, 14, 16, 40} {
					changesAhead(t, grown(upTo(many)), searches, key, others, ahead)
				}
			}
		}
	}
}

func changesAhead(t *testing.T, x *tree.Tree, searches []search, key, others string, ahead int) {
	t.Helper()
	told := make([][]api.Seen, len(searches))
	for i, s := range searches {
		_, told[i] = s.ask(x)
	}
	for n := range ahead {
		x.Put(others+name(n), n)
	}
	if _, e := x.Take(key); e == api.ErrNone {
		x.Put(key, 1)
	}
	for i, s := range searches {
		notValid(t, x, told[i], fmt.Sprintf("%v behind %d others from %s on, and %s", s, ahead, others, key))
	}
}

// 13.3: keys around the one that counts go until its node has none, and come again.
func TestNodesThatComeAndGo(t *testing.T) {
	const many = 60
	for place := range many {
		for _, far := range []int{0, 3, 8, 16, many} {
			x := grown(upTo(many))
			key := name(2*place + 1)
			searches := []search{{key, "", 0}, {key, key + "\x00", 1}, {"", key + "\x00", all}, {key, "", all}, {key, "", 1}}
			told := make([][]api.Seen, len(searches))
			for i, s := range searches {
				_, told[i] = s.ask(x)
			}
			for n := max(0, place-far); n <= min(many-1, place+far); n++ {
				take(t, x, name(2*n+1), n)
			}
			for i, s := range searches {
				notValid(t, x, told[i], fmt.Sprint(s, " behind Takes"))
			}
			// What is seen where a node was is true until a key comes there.
			_, none := search{key, "", 0}.ask(x)
			_, empty := search{key, key + "\x00", 1}.ask(x)
			valid(t, x, none, "Get where keys were taken out")
			valid(t, x, empty, "Scan where keys were taken out")
			for n := min(many-1, place+far); n >= max(0, place-far); n-- {
				put(t, x, name(2*n+1), n)
			}
			for i, s := range searches {
				notValid(t, x, told[i], fmt.Sprint(s, " behind Takes and Puts"))
			}
			notValid(t, x, none, "Get of none, behind Puts")
			notValid(t, x, empty, "Scan of none, behind Puts")
		}
	}
}

// A tree that has had no keys left, and has the same ones again, is not what was seen.
func TestAllKeysGoAndComeAgain(t *testing.T) {
	for _, many := range []int{1, 2, 15, 16, 200} {
		x := grown(upTo(many))
		var old [][]api.Seen
		for range 5 {
			_, _, seen, _ := x.Scan("", "", all)
			_, _, first := x.Get(name(1))
			old = append(old, seen, first)
			for n := range many {
				take(t, x, name(2*n+1), n)
			}
			_, _, seen, _ = x.Scan("", "", all)
			_, _, first = x.Get(name(1))
			old = append(old, seen, first)
			for n := range many {
				put(t, x, name(2*n+1), n)
			}
			for _, seen := range old {
				notValid(t, x, seen, fmt.Sprint("an old search of ", many))
			}
		}
	}
}

// 13.3: in a full tree, where a Put is refused, all that was seen stays true; then one goes.
func TestValidInAFullTree(t *testing.T) {
	x := full(t)
	_, _, every, _ := x.Scan("", "", all)
	_, _, miss := x.Get(name(4001))
	_, _, part, _ := x.Scan(name(4001), name(4002), 1)
	notPutQuick(t, x, name(4001))
	notPutQuick(t, x, "")
	valid(t, x, every, "Scan, behind a Put that was refused")
	valid(t, x, miss, "Get, behind a Put that was refused")
	valid(t, x, part, "Scan of none, behind a Put that was refused")
	take(t, x, name(8190), 8190)
	notValid(t, x, every, "Scan, behind a Take")
	put(t, x, name(4001), 1)
	notValid(t, x, miss, "Get, behind a Put")
	notValid(t, x, part, "Scan of none, behind a Put")
}

// Keys lie in many nodes: who searched far off is not disturbed by most keys. (Which ones is the tree's own.)
func TestFarKeysDisturbFew(t *testing.T) {
	x := grown(rand.New(rand.NewSource(2)).Perm(2000))
	searches := map[string][][]api.Seen{}
	for n := range 4000 {
		for kind, s := range map[string]search{"Get": {name(n), "", 0}, "Scan": {name(n), name(n + 4), all}, "Scan of few": {name(n), "", 2}} {
			_, seen := s.ask(x)
			searches[kind] = append(searches[kind], seen)
		}
	}
	put(t, x, name(2000), 1)
	take(t, x, name(1001), 500)
	for kind, told := range searches {
		still := 0
		for _, seen := range told {
			if x.Valid(seen) {
				still++
			}
		}
		if still < 3900 || still > 3998 {
			t.Errorf("%s: %d of 4000 are valid still", kind, still)
		}
	}
}

// What is kept goes with the keys: however many came and went, there are no more nodes than keys.
func TestNodesGoWithTheirKeys(t *testing.T) {
	x := tree.New()
	r := rand.New(rand.NewSource(3))
	for round := range 60 {
		front := fmt.Sprint(r.Intn(1000))
		for n := range 200 {
			x.Put(front+name(n), round)
		}
		for _, n := range r.Perm(200)[:199] {
			x.Take(front + name(n))
		}
		if _, _, seen, _ := x.Scan("", "", all); len(seen) > x.Len() {
			t.Fatalf("%d nodes of %d keys", len(seen), x.Len())
		}
	}
	keys, _, _, _ := x.Scan("", "", all)
	for _, key := range keys {
		x.Take(key)
	}
	if _, _, seen, _ := x.Scan("", "", all); len(seen) != 1 || x.Len() != 0 {
		t.Errorf("%d nodes of %d keys", len(seen), x.Len())
	}
}

// oddLists are lists that no search told, made of one that was told.
func oddLists(seen []api.Seen) [][]api.Seen {
	list := [][]api.Seen{nil, {}, seen[:0], append(slices.Clone(seen), seen...), make([]api.Seen, 1), make([]api.Seen, 1<<16)}
	numbers := []int{math.MinInt, math.MinInt + 1, -1 << 32, -1, 0, 1, 2, 15, 16, 4096, 1 << 31, 1 << 32, 1 << 62, math.MaxInt - 1, math.MaxInt}
	for _, a := range numbers {
		list = append(list, []api.Seen{{Node: a}}, []api.Seen{{Inserts: a}}, []api.Seen{{Splits: a}}, []api.Seen{{Node: a, Inserts: a, Splits: a}})
		for _, b := range numbers {
			list = append(list, []api.Seen{{Node: 1, Inserts: a, Splits: b}}, append(slices.Clone(seen), api.Seen{Node: a, Inserts: b, Splits: 1}))
		}
		for i := range seen {
			spoilt := slices.Clone(seen)
			spoilt[i].Node = a
			list = append(list, spoilt, seen[i:], seen[:i])
		}
	}
	return list
}

// P1: every call ends and none panics; Valid of any list changes nothing.
func TestNothingPanics(t *testing.T) {
	y := grown(upTo(100))
	_, _, others, _ := y.Scan("", "", all)
	for _, many := range []int{0, 1, 15, 16, 100} {
		x := thinned(upTo(many))
		before := state(x)
		_, _, seen, _ := x.Scan("", "", all)
		for _, list := range append(oddLists(seen), oddLists(others)...) {
			x.Valid(list)
		}
		unchanged(t, x, before)
	}
	x := tree.New()
	texts := append(noKeys(), append(byBytes(), long(api.MaxText), name(1))...)
	for i, key := range texts {
		for j, other := range texts {
			x.Put(key, i)
			x.Get(other)
			x.Scan(key, other, i*j)
			x.Take(texts[(i*j+j)%len(texts)])
			x.Len()
		}
	}
}
