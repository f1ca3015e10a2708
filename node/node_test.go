package node_test

import (
	"fmt"
	"math"
	"math/rand"
	"slices"
	"strings"
	"testing"
	"unsafe"

	"hopper/api"
	"hopper/node"
)

const (
	slots    = 15
	empty    = 0xedcba98765432100
	greatest = math.MaxUint64
)

// word puts an order word together by the chapter's places: how many are used is lowest, the last slot that is told highest.
func word(used int, order []int) uint64 {
	w := uint64(0)
	for i := range order {
		w = w*16 + uint64(order[len(order)-1-i])
	}
	return w*16 + uint64(used)
}

// apart takes an order word apart again.
func apart(w uint64) (used int, order []int) {
	used = int(w % 16)
	for range slots {
		w /= 16
		order = append(order, int(w%16))
	}
	return used, order
}

// upTo has the numbers from 0 to below n.
func upTo(n int) []int {
	list := make([]int, n)
	for i := range list {
		list[i] = i
	}
	return list
}

// orders are some in which slots can be told: rising, falling, turned, every second one, and drawn ones.
func orders() [][]int {
	rising := upTo(slots)
	falling := slices.Clone(rising)
	slices.Reverse(falling)
	list := [][]int{rising, falling, {14, 0, 13, 1, 12, 2, 11, 3, 10, 4, 9, 5, 8, 6, 7}, {0, 2, 4, 6, 8, 10, 12, 14, 1, 3, 5, 7, 9, 11, 13}}
	for i := range 4 {
		list = append(list, append(slices.Clone(rising[3*i+1:]), rising[:3*i+1]...))
	}
	for seed := range int64(6) {
		list = append(list, rand.New(rand.NewSource(seed)).Perm(slots))
	}
	return list
}

// odd are places that no word has, used or free.
func odd() []int {
	return []int{-1, -2, -14, -15, -16, -1 << 31, -1 << 32, math.MinInt, math.MinInt + 1, 16, 17, 64, 1 << 31, 1 << 32, 1<<32 + 1, 1 << 60, 1 << 62, math.MaxInt - 1, math.MaxInt}
}

// badWords are some that may not be, of any count.
func badWords() []uint64 {
	list := []uint64{0, 1, 15, greatest, greatest - 15, greatest - 1, 0x1111111111111110, 0xeeeeeeeeeeeeeeee, 1 << 63, empty >> 8, 0xdcba987654321000}
	for used := range uint64(16) {
		w := uint64(empty) + used
		list = append(list, w&^0xf0|0x10, w&^0xf0|0xf0, w|0xf<<60, w&^(0xf<<60), w|0xf<<32, w&^(0xff<<28))
	}
	return list
}

func check(t *testing.T, w uint64, want api.Errno) {
	t.Helper()
	if e := node.Check(w); e != want {
		t.Errorf("Check of %#x: %d, not %d", w, e, want)
	}
}

func insert(t *testing.T, w uint64, at int, want uint64, wantSlot int, wantE api.Errno) {
	t.Helper()
	if next, slot, e := node.Insert(w, at); next != want || slot != wantSlot || e != wantE {
		t.Errorf("Insert of %#x at %d: %#x %d %d, not %#x %d %d", w, at, next, slot, e, want, wantSlot, wantE)
	}
}

func remove(t *testing.T, w uint64, at int, want uint64, wantSlot int, wantE api.Errno) {
	t.Helper()
	if next, slot, e := node.Remove(w, at); next != want || slot != wantSlot || e != wantE {
		t.Errorf("Remove of %#x at %d: %#x %d %d, not %#x %d %d", w, at, next, slot, e, want, wantSlot, wantE)
	}
}

// 12.1: words that may be, and those that may not.

func TestEmpty(t *testing.T) {
	for range 3 {
		if w := node.Empty(); w != empty || w != word(0, upTo(slots)) {
			t.Errorf("Empty: %#x", w)
		}
	}
	check(t, node.Empty(), api.OK)
}

func TestCheckOfWordsThatMayBe(t *testing.T) {
	for _, order := range orders() {
		for used := range slots + 1 {
			check(t, word(used, order), api.OK)
		}
	}
	check(t, 0xedcba98765432100, api.OK)
	check(t, 0xedcba9876543210f, api.OK)
	check(t, 0x0123456789abcde0, api.OK)
	check(t, 0x0123456789abcdef, api.OK)
}

func TestCheckOfASlotToldTwice(t *testing.T) {
	for _, order := range orders() {
		for i := range slots {
			for j := range slots {
				twice := slices.Clone(order)
				twice[i] = order[j]
				for used := range slots + 1 {
					if i != j {
						check(t, word(used, twice), api.ErrShape)
					}
				}
			}
		}
	}
}

func TestCheckOfTheSlotThatThereIsNot(t *testing.T) {
	for _, order := range orders() {
		for i := range slots {
			for j := range slots {
				list := slices.Clone(order)
				list[i], list[j] = 15, 15
				// Of each count: the number stands among the used ones, and among the free ones.
				for used := range slots + 1 {
					check(t, word(used, list), api.ErrShape)
				}
			}
		}
	}
}

// A bit that is turned makes a slot one that is told elsewhere, or one that there is not.
func TestCheckOfATurnedBit(t *testing.T) {
	for _, order := range orders() {
		for used := range slots + 1 {
			for bit := 4; bit < 64; bit++ {
				check(t, word(used, order)^1<<bit, api.ErrShape)
			}
		}
	}
}

func TestCheckOfWordsThatMayNotBe(t *testing.T) {
	check(t, 0, api.ErrShape)
	check(t, greatest, api.ErrShape)
	for _, w := range badWords() {
		check(t, w, api.ErrShape)
	}
	for used := range uint64(16) {
		for slot := range uint64(16) {
			check(t, slot*0x1111111111111110|used, api.ErrShape)
		}
	}
}

// 12.1: a word that may not be is told ahead of all else.
func TestWordsThatMayNotBeAreRefused(t *testing.T) {
	for _, w := range badWords() {
		for _, at := range append(odd(), upTo(16)...) {
			insert(t, w, at, 0, 0, api.ErrShape)
			remove(t, w, at, 0, 0, api.ErrShape)
		}
	}
}

// 12.1: Insert.

func TestInsertAtEachPlace(t *testing.T) {
	for _, order := range orders() {
		for used := range slots {
			w := word(used, order)
			for at := range used + 1 {
				slot := order[used]
				list := slices.Insert(slices.Clone(order[:used]), at, slot)
				insert(t, w, at, word(used+1, append(list, order[used+1:]...)), slot, api.OK)
			}
		}
	}
}

func TestInsertWrittenOut(t *testing.T) {
	insert(t, 0xedcba98765432100, 0, 0xedcba98765432101, 0, api.OK)
	insert(t, 0xedcba98765432103, 0, 0xedcba98765421034, 3, api.OK)
	insert(t, 0xedcba98765432103, 1, 0xedcba98765421304, 3, api.OK)
	insert(t, 0xedcba98765432103, 2, 0xedcba98765423104, 3, api.OK)
	insert(t, 0xedcba98765432103, 3, 0xedcba98765432104, 3, api.OK)
	insert(t, 0x0123456789abcde0, 0, 0x0123456789abcde1, 14, api.OK)
	insert(t, 0x0123456789abcdee, 0, 0x123456789abcde0f, 0, api.OK)
	insert(t, 0x0123456789abcdee, 14, 0x0123456789abcdef, 0, api.OK)
}

func TestInsertOfAFullWord(t *testing.T) {
	for _, order := range orders() {
		for _, at := range append(odd(), upTo(16)...) {
			insert(t, word(slots, order), at, 0, 0, api.ErrFull)
		}
	}
}

func TestInsertAtNoPlace(t *testing.T) {
	for _, order := range orders() {
		for used := range slots {
			for _, at := range append(odd(), used+1, used+2, 15) {
				// Behind 14 used ones the place 15 is one more than may be, too.
				insert(t, word(used, order), at, 0, 0, api.ErrRange)
			}
		}
	}
}

// 12.1: Remove.

func TestRemoveAtEachPlace(t *testing.T) {
	for _, order := range orders() {
		for used := 1; used <= slots; used++ {
			w := word(used, order)
			for at := range used {
				slot := order[at]
				list := slices.Delete(slices.Clone(order[:used]), at, at+1)
				list = append(list, slot)
				remove(t, w, at, word(used-1, append(list, order[used:]...)), slot, api.OK)
			}
		}
	}
}

func TestRemoveWrittenOut(t *testing.T) {
	remove(t, 0xedcba98765432101, 0, 0xedcba98765432100, 0, api.OK)
	remove(t, 0xedcba98765432104, 0, 0xedcba98765403213, 0, api.OK)
	remove(t, 0xedcba98765432104, 1, 0xedcba98765413203, 1, api.OK)
	remove(t, 0xedcba98765432104, 2, 0xedcba98765423103, 2, api.OK)
	remove(t, 0xedcba98765432104, 3, 0xedcba98765432103, 3, api.OK)
	remove(t, 0xedcba9876543210f, 0, 0x0edcba987654321e, 0, api.OK)
	remove(t, 0xedcba9876543210f, 14, 0xedcba9876543210e, 14, api.OK)
}

func TestRemoveAtNoPlace(t *testing.T) {
	for _, order := range orders() {
		for used := range slots + 1 {
			for _, at := range append(odd(), used, used+1, 15) {
				remove(t, word(used, order), at, 0, 0, api.ErrRange)
			}
		}
	}
}

// One undoes the other: a slot that is taken out is the first free one, and that is the one that is put in.
func TestInsertAndRemoveUndoEachOther(t *testing.T) {
	for _, order := range orders() {
		for used := range slots {
			for at := range used + 1 {
				w := word(used, order)
				next, slot, _ := node.Insert(w, at)
				check(t, next, api.OK)
				remove(t, next, at, w, slot, api.OK)
			}
			for at := range used {
				w := word(used, order)
				next, slot, _ := node.Remove(w, at)
				check(t, next, api.OK)
				insert(t, next, at, w, slot, api.OK)
			}
		}
	}
}

func TestUpToFullAndBack(t *testing.T) {
	w := node.Empty()
	for i := range slots {
		next, slot, e := node.Insert(w, 0)
		if slot != i || e != api.OK {
			t.Fatalf("the Insert %d: %#x %d %d", i, next, slot, e)
		}
		w = next
	}
	if w != 0x0123456789abcdef {
		t.Errorf("full: %#x", w)
	}
	for i := range slots {
		next, slot, e := node.Remove(w, 0)
		if slot != slots-1-i || e != api.OK {
			t.Fatalf("the Remove %d: %#x %d %d", i, next, slot, e)
		}
		w = next
	}
	if w != node.Empty() {
		t.Errorf("without used ones again: %#x", w)
	}
}

// What is asked of a node.

func put(t *testing.T, n *node.Node, key string, value int) {
	t.Helper()
	if was, there, e := n.Put(key, value); was != 0 || there || e != api.OK {
		t.Errorf("Put %.40q %d: %d %t %d", key, value, was, there, e)
	}
}

func putAgain(t *testing.T, n *node.Node, key string, value, want int) {
	t.Helper()
	if was, there, e := n.Put(key, value); was != want || !there || e != api.OK {
		t.Errorf("Put %.40q %d: %d %t %d, not %d", key, value, was, there, e, want)
	}
}

func notPut(t *testing.T, n *node.Node, key string, want api.Errno) {
	t.Helper()
	before := state(n)
	for _, value := range []int{0, 1, -1, math.MinInt, math.MaxInt} {
		if was, there, e := n.Put(key, value); was != 0 || there || e != want {
			t.Errorf("Put %.40q of %d bytes: %d %t %d, not %d", key, len(key), was, there, e, want)
		}
	}
	unchanged(t, n, before)
}

func get(t *testing.T, n *node.Node, key string, want int) {
	t.Helper()
	if value, there := n.Get(key); value != want || !there {
		t.Errorf("Get %.40q: %d %t, not %d", key, value, there, want)
	}
}

func notGot(t *testing.T, n *node.Node, key string) {
	t.Helper()
	if value, there := n.Get(key); value != 0 || there {
		t.Errorf("Get %.40q of %d bytes: %d %t, not none", key, len(key), value, there)
	}
}

func take(t *testing.T, n *node.Node, key string, want int) {
	t.Helper()
	if was, e := n.Take(key); was != want || e != api.OK {
		t.Errorf("Take %.40q: %d %d, not %d", key, was, e, want)
	}
}

func notTaken(t *testing.T, n *node.Node, key string) {
	t.Helper()
	before := state(n)
	if was, e := n.Take(key); was != 0 || e != api.ErrNone {
		t.Errorf("Take %.40q of %d bytes: %d %d, not refused", key, len(key), was, e)
	}
	unchanged(t, n, before)
}

func keys(t *testing.T, n *node.Node, want ...string) {
	t.Helper()
	if list := n.Keys(); !slices.Equal(list, want) {
		t.Errorf("Keys: %.400q, not %.400q", list, want)
	}
}

func order(t *testing.T, n *node.Node, want uint64) {
	t.Helper()
	if w := n.Order(); w != want {
		t.Errorf("Order: %#x, not %#x", w, want)
	}
}

func counts(t *testing.T, n *node.Node, inserts, splits int) {
	t.Helper()
	if i, s := n.Counts(); i != inserts || s != splits {
		t.Errorf("Counts: %d %d, not %d %d", i, s, inserts, splits)
	}
}

func split(t *testing.T, n *node.Node, want string) *node.Node {
	t.Helper()
	right, least, e := n.Split()
	if right == nil || least != want || e != api.OK {
		t.Fatalf("Split: a node is %t, %.40q %d, not %.40q", right != nil, least, e, want)
	}
	return right
}

func notSplit(t *testing.T, n *node.Node) {
	t.Helper()
	before := state(n)
	if right, least, e := n.Split(); right != nil || least != "" || e != api.ErrShape {
		t.Errorf("Split: a node is %t, %.40q %d, not refused", right != nil, least, e)
	}
	unchanged(t, n, before)
}

// state is all that a node tells.
func state(n *node.Node) string {
	inserts, splits := n.Counts()
	var out strings.Builder
	fmt.Fprintf(&out, "%#x %d %d", n.Order(), inserts, splits)
	for _, key := range n.Keys() {
		value, there := n.Get(key)
		fmt.Fprintf(&out, " %q %d %t", key, value, there)
	}
	return out.String()
}

func unchanged(t *testing.T, n *node.Node, before string) {
	t.Helper()
	if now := state(n); now != before {
		t.Errorf("changed: %.400s, not %.400s", now, before)
	}
}

// letters has the first letters, as keys.
func letters(many int) []string {
	var list []string
	for i := range many {
		list = append(list, string(rune('a'+i)))
	}
	return list
}

// with has a new node with keys, put in as they stand; the values count from 100 on.
func with(t *testing.T, list ...string) *node.Node {
	t.Helper()
	n := node.New()
	for i, key := range list {
		put(t, n, key, 100+i)
	}
	return n
}

// full has just as many keys as may be: a, b and so on.
func full(t *testing.T) *node.Node {
	t.Helper()
	return with(t, letters(slots)...)
}

// long has so many bytes.
func long(many int) string { return strings.Repeat("k", many) }

// noKeys are keys that are too long.
func noKeys() []string {
	return []string{long(api.MaxText + 1), long(api.MaxText + 2), long(2 * api.MaxText), long(1 << 16), strings.Repeat("\x00", api.MaxText+1), strings.Repeat("\xff", api.MaxText+1), "a" + long(api.MaxText)}
}

// 12.2: a new node.
func TestNew(t *testing.T) {
	n := node.New()
	keys(t, n)
	order(t, n, empty)
	counts(t, n, 0, 0)
	for _, key := range append(noKeys(), "", "a", "\x00", "\xff", long(api.MaxText)) {
		notGot(t, n, key)
		notTaken(t, n, key)
	}
	notSplit(t, n)
	counts(t, n, 0, 0)
}

// 12.2: keys that are put in.

func TestPutRising(t *testing.T) {
	n := node.New()
	for i, key := range letters(slots) {
		put(t, n, key, i)
		order(t, n, empty+uint64(i)+1)
		counts(t, n, i+1, 0)
		keys(t, n, letters(i+1)...)
	}
	for i, key := range letters(slots) {
		get(t, n, key, i)
	}
}

func TestPutFalling(t *testing.T) {
	n := node.New()
	list := letters(slots)
	for i := range list {
		put(t, n, list[slots-1-i], i)
		counts(t, n, i+1, 0)
		keys(t, n, list[slots-1-i:]...)
		falling := upTo(i + 1)
		slices.Reverse(falling)
		order(t, n, word(i+1, append(falling, upTo(slots)[i+1:]...)))
	}
	order(t, n, 0x0123456789abcdef)
}

func TestPutInAnyOrder(t *testing.T) {
	for _, places := range orders() {
		n := node.New()
		var there []int
		for i, place := range places {
			key := letters(slots)[place]
			notGot(t, n, key)
			put(t, n, key, 7*place)
			get(t, n, key, 7*place)
			there = append(there, place)
			slices.Sort(there)
			var slotsInOrder []int
			for _, other := range there {
				slotsInOrder = append(slotsInOrder, slices.Index(places, other))
			}
			order(t, n, word(i+1, append(slotsInOrder, upTo(slots)[i+1:]...)))
			counts(t, n, i+1, 0)
		}
		keys(t, n, letters(slots)...)
		for place, key := range letters(slots) {
			get(t, n, key, 7*place)
		}
	}
}

func TestPutOfLongKeys(t *testing.T) {
	n := with(t, "a")
	for _, key := range noKeys() {
		notPut(t, n, key, api.ErrLong)
		notGot(t, n, key)
		notTaken(t, n, key)
	}
	keys(t, n, "a")
	most := long(api.MaxText)
	put(t, n, most, 5)
	get(t, n, most, 5)
	putAgain(t, n, most, 6, 5)
	for _, key := range noKeys() {
		notPut(t, n, key, api.ErrLong)
		notGot(t, n, key)
		notTaken(t, n, key)
	}
	put(t, n, long(api.MaxText-1), 7)
	keys(t, n, "a", long(api.MaxText-1), most)
	take(t, n, most, 6)
	keys(t, n, "a", long(api.MaxText-1))
}

// 12.2: keys stand by bytes, whatever these mean.
func TestKeysByBytes(t *testing.T) {
	rising := []string{"", "\x00", "\x00\x00", "\x00a", "\x01", "A", "a", "a\x00", "aa", "a\xff", "b", "\x7f", "\x80", "é", "\xff"}
	for _, places := range orders() {
		n := node.New()
		for _, place := range places {
			put(t, n, rising[place], place+1)
		}
		keys(t, n, rising...)
		for place, key := range rising {
			get(t, n, key, place+1)
			putAgain(t, n, key, -place, place+1)
		}
		for _, key := range []string{"\x00\x00\x00", "\x00\x01", "a\x00\x00", "ab", "aaa", "\xfe", "\xff\x00", "\xff\xff"} {
			notGot(t, n, key)
			notTaken(t, n, key)
			notPut(t, n, key, api.ErrFull)
		}
		for i, place := range places {
			take(t, n, rising[place], -place)
			if len(n.Keys()) != slots-1-i {
				t.Errorf("Keys behind %d that were taken: %q", i+1, n.Keys())
			}
		}
	}
}

func TestTheEmptyKey(t *testing.T) {
	n := node.New()
	notGot(t, n, "")
	put(t, n, "", 3)
	get(t, n, "", 3)
	keys(t, n, "")
	put(t, n, "\x00", 4)
	keys(t, n, "", "\x00")
	take(t, n, "", 3)
	notGot(t, n, "")
	notTaken(t, n, "")
	keys(t, n, "\x00")
}

// Keys that differ at their last byte alone.
func TestLongKeysThatBeginAlike(t *testing.T) {
	front := long(api.MaxText - 1)
	n := with(t, front+"c", front+"a", front, front+"b")
	keys(t, n, front, front+"a", front+"b", front+"c")
	order(t, n, 0xedcba98765403124)
	get(t, n, front+"b", 103)
	notGot(t, n, front+"d")
	notGot(t, n, front[1:])
}

func TestPutOfAKeyThatIsThere(t *testing.T) {
	n := with(t, "b", "d", "a")
	before := n.Order()
	for i, key := range []string{"b", "d", "a", "d"} {
		value, _ := n.Get(key)
		putAgain(t, n, key, 1000+i, value)
		get(t, n, key, 1000+i)
		putAgain(t, n, key, 1000+i, 1000+i)
		order(t, n, before)
		counts(t, n, 3, 0)
		keys(t, n, "a", "b", "d")
	}
	get(t, n, "b", 1000)
	get(t, n, "a", 1002)
	get(t, n, "d", 1003)
}

func TestPutIntoAFullNode(t *testing.T) {
	n := full(t)
	for _, key := range []string{"", "A", "aa", "h\x00", "o\x00", "p", "\xff", long(api.MaxText)} {
		notPut(t, n, key, api.ErrFull)
		notGot(t, n, key)
	}
	for _, key := range noKeys() {
		notPut(t, n, key, api.ErrLong)
	}
	for i, key := range letters(slots) {
		putAgain(t, n, key, -i, 100+i)
		order(t, n, empty+slots)
		counts(t, n, slots, 0)
	}
	keys(t, n, letters(slots)...)
	take(t, n, "h", -7)
	put(t, n, "hh", 1)
	notPut(t, n, "h", api.ErrFull)
	counts(t, n, slots+2, 0)
}

func TestValuesMayBeAnyNumbers(t *testing.T) {
	values := []int{0, 1, -1, 15, 16, math.MinInt, math.MaxInt, 1 << 32, -1 << 32}
	n := node.New()
	for i, value := range values {
		put(t, n, letters(slots)[i], value)
	}
	for i, value := range values {
		get(t, n, letters(slots)[i], value)
	}
	for i, value := range values {
		for _, other := range values {
			putAgain(t, n, letters(slots)[i], other, value)
			get(t, n, letters(slots)[i], other)
			putAgain(t, n, letters(slots)[i], value, other)
		}
		take(t, n, letters(slots)[i], value)
	}
}

// 12.2: keys that are taken out.

func TestTakeAtEachPlace(t *testing.T) {
	for many := 1; many <= slots; many++ {
		for at := range many {
			list := letters(many)
			n := with(t, list...)
			want, _, _ := node.Remove(empty+uint64(many), at)
			take(t, n, list[at], 100+at)
			order(t, n, want)
			counts(t, n, many+1, 0)
			notGot(t, n, list[at])
			notTaken(t, n, list[at])
			keys(t, n, slices.Delete(letters(many), at, at+1)...)
			for i, key := range list {
				if i != at {
					get(t, n, key, 100+i)
				}
			}
			put(t, n, list[at], 0) // in the same slot, and nothing is left of its value
			get(t, n, list[at], 0)
			order(t, n, empty+uint64(many))
			counts(t, n, many+2, 0)
		}
	}
}

func TestTakeOfKeysThatAreNotThere(t *testing.T) {
	n := with(t, "b", "d", "dd")
	for _, key := range append(noKeys(), "", "a", "c", "bb", "b\x00", "ddd", "e", "\xff", long(api.MaxText)) {
		notGot(t, n, key)
		notTaken(t, n, key)
	}
	counts(t, n, 3, 0)
	keys(t, n, "b", "d", "dd")
}

func TestTakeOfAllInAnyOrder(t *testing.T) {
	for _, places := range orders() {
		n := full(t)
		for i, place := range places {
			take(t, n, letters(slots)[place], 100+place)
			used, told := apart(n.Order())
			// The slots are numbered as the keys: the one taken out last is the first free one.
			if used != slots-1-i || told[used] != place {
				t.Errorf("behind %v: %#x", places[:i+1], n.Order())
			}
			counts(t, n, slots+i+1, 0)
		}
		keys(t, n)
		used, told := apart(n.Order())
		slices.Reverse(told)
		if used != 0 || !slices.Equal(told, places) {
			t.Errorf("behind %v: %#x", places, n.Order())
		}
	}
}

func TestTheSlotTakenOutIsPutInFirst(t *testing.T) {
	n := with(t, "a", "b", "c", "d")
	order(t, n, 0xedcba98765432104)
	take(t, n, "b", 101) // the slot 1
	take(t, n, "d", 103) // the slot 3
	order(t, n, 0xedcba98765413202)
	put(t, n, "e", 9)
	order(t, n, 0xedcba98765413203)
	put(t, n, "A", 8)
	order(t, n, 0xedcba98765432014)
	put(t, n, "f", 7)
	order(t, n, 0xedcba98765432015)
	keys(t, n, "A", "a", "c", "e", "f")
	counts(t, n, 9, 0)
}

// 12.3: a split.

func TestSplitOfTooFew(t *testing.T) {
	n := node.New()
	notSplit(t, n)
	put(t, n, "a", 1)
	notSplit(t, n)
	get(t, n, "a", 1)
	put(t, n, "b", 2)
	take(t, n, "a", 1)
	notSplit(t, n)
	take(t, n, "b", 2)
	notSplit(t, n)
	counts(t, n, 4, 0)
}

func TestSplitWrittenOut(t *testing.T) {
	for _, c := range []struct {
		many, stay int
		least      string
	}{{2, 1, "b"}, {3, 2, "c"}, {4, 2, "c"}, {5, 3, "d"}, {14, 7, "h"}, {15, 8, "i"}} {
		n := with(t, letters(c.many)...)
		right := split(t, n, c.least)
		keys(t, n, letters(c.many)[:c.stay]...)
		keys(t, right, letters(c.many)[c.stay:]...)
		counts(t, n, c.many+c.many-c.stay, 1)
		counts(t, right, c.many-c.stay, 0)
		// Keys that were put in rising have their slots in order: taken out from the last one on, these are told so still.
		order(t, n, empty+uint64(c.stay))
		order(t, right, empty+uint64(c.many-c.stay))
		for i, key := range letters(c.many) {
			here, there := n, right
			if i >= c.stay {
				here, there = right, n
			}
			get(t, here, key, 100+i)
			notGot(t, there, key)
		}
	}
}

func TestSplitOfKeysPutInInAnyOrder(t *testing.T) {
	for _, places := range orders() {
		for many := 2; many <= slots; many++ {
			n, stay := node.New(), (many+1)/2
			for _, place := range places[:many] {
				put(t, n, letters(slots)[place], place)
			}
			list := n.Keys()
			want := n.Order()
			for at := many - 1; at >= stay; at-- {
				want, _, _ = node.Remove(want, at)
			}
			right := split(t, n, list[stay])
			keys(t, n, list[:stay]...)
			keys(t, right, list[stay:]...)
			order(t, n, want)
			order(t, right, empty+uint64(many-stay))
			counts(t, n, many+many-stay, 1)
			counts(t, right, many-stay, 0)
			for i, key := range list {
				if i < stay {
					get(t, n, key, int(key[0]-'a'))
				} else {
					get(t, right, key, int(key[0]-'a'))
				}
			}
		}
	}
}

func TestSplitOfKeysPutInFalling(t *testing.T) {
	n := with(t, "d", "c", "b", "a")
	order(t, n, 0xedcba98765401234)
	right := split(t, n, "c")
	// Used are 3, 2; d's slot 0 is taken out first, then c's slot 1.
	order(t, n, 0xedcba98765401232)
	order(t, right, 0xedcba98765432102)
	put(t, n, "bb", 5)
	order(t, n, 0xedcba98765401233)
	get(t, right, "d", 100)
	get(t, right, "c", 101)
}

func TestSplitOfEachHalf(t *testing.T) {
	n := full(t)
	right := split(t, n, "i")
	far := split(t, right, "m") // of 7: 4 stay
	keys(t, right, "i", "j", "k", "l")
	keys(t, far, "m", "n", "o")
	counts(t, right, 7+3, 1)
	counts(t, far, 3, 0)
	near := split(t, n, "e") // of 8: 4 stay
	keys(t, n, "a", "b", "c", "d")
	keys(t, near, "e", "f", "g", "h")
	counts(t, n, 15+7+4, 2)
	counts(t, near, 4, 0)
	split(t, n, "c")
	counts(t, n, 15+7+4+2, 3)
	last := split(t, n, "b")
	counts(t, n, 15+7+4+2+1, 4)
	keys(t, n, "a")
	keys(t, last, "b")
	notSplit(t, n)
	notSplit(t, last)
	order(t, n, empty+1)
	order(t, last, empty+1)
	get(t, n, "a", 100)
	get(t, last, "b", 101)
}

func TestBothHalvesAreFilledAgain(t *testing.T) {
	n := full(t)
	right := split(t, n, "i")
	for i := range 7 {
		put(t, n, fmt.Sprint("a", i), i)
	}
	for i := range 8 {
		put(t, right, fmt.Sprint("x", i), i)
	}
	notPut(t, n, "z", api.ErrFull)
	notPut(t, right, "z", api.ErrFull)
	counts(t, n, 15+7+7, 1)
	counts(t, right, 7+8, 0)
	keys(t, n, "a", "a0", "a1", "a2", "a3", "a4", "a5", "a6", "b", "c", "d", "e", "f", "g", "h")
	split(t, right, "x1")
	counts(t, right, 15+7, 1)
}

func TestSplitOfLongKeys(t *testing.T) {
	front := long(api.MaxText - 1)
	n := with(t, "", front+"z", front)
	right := split(t, n, front+"z")
	keys(t, n, "", front)
	keys(t, right, front+"z")
	get(t, right, front+"z", 101)
	// The least key of the new node is never the empty one, but all others it may be.
	n = with(t, "", "\x00")
	split(t, n, "\x00")
	keys(t, n, "")
}

// Nodes do not touch one another.

func TestNodesAreApart(t *testing.T) {
	a, b := node.New(), node.New()
	put(t, a, "k", 1)
	keys(t, b)
	order(t, b, empty)
	counts(t, b, 0, 0)
	notGot(t, b, "k")
	put(t, b, "k", 2)
	put(t, b, "j", 3)
	get(t, a, "k", 1)
	take(t, a, "k", 1)
	get(t, b, "k", 2)
	split(t, b, "k")
	counts(t, a, 2, 0)
	keys(t, a)
	order(t, node.New(), empty)
	keys(t, node.New())
}

func TestHalvesAreApart(t *testing.T) {
	n := full(t)
	right := split(t, n, "i")
	here := state(n)
	putAgain(t, right, "i", 5, 108)
	take(t, right, "j", 109)
	put(t, right, "a", 6)
	split(t, right, "m")
	unchanged(t, n, here)
	there := state(right)
	putAgain(t, n, "a", 7, 100)
	take(t, n, "b", 101)
	put(t, n, "k", 8)
	split(t, n, "f")
	unchanged(t, right, there)
}

// R4: what is told is new memory.

func TestKeysTellsNewMemory(t *testing.T) {
	n := with(t, "b", "d", "a", "c")
	before := state(n)
	first, second := n.Keys(), n.Keys()
	for i := range first {
		first[i] = "changed"
	}
	for i := range cap(first) {
		first[:cap(first)][i] = "changed"
	}
	if !slices.Equal(second, []string{"a", "b", "c", "d"}) {
		t.Errorf("another list was changed: %q", second)
	}
	_ = append(second, "behind")
	unchanged(t, n, before)
	keys(t, n, "a", "b", "c", "d")
}

func TestWhatWasToldStays(t *testing.T) {
	n := full(t)
	list := n.Keys()
	right := split(t, n, "i")
	half := right.Keys()
	for _, key := range letters(8) {
		n.Take(key)
		n.Put(key+key, 1)
	}
	for _, key := range half {
		right.Take(key)
	}
	if !slices.Equal(list, letters(slots)) || !slices.Equal(half, letters(slots)[8:]) {
		t.Errorf("told: %q, %q", list, half)
	}
}

// shared tells whether two texts have a byte in common in memory.
func shared(a, b string) bool {
	if a == "" || b == "" {
		return false
	}
	first, second := uintptr(unsafe.Pointer(unsafe.StringData(a))), uintptr(unsafe.Pointer(unsafe.StringData(b)))
	return first < second+uintptr(len(b)) && second < first+uintptr(len(a))
}

func TestToldTextsAreNew(t *testing.T) {
	in := []string{strings.Repeat("a", 40), strings.Repeat("b", 40)}
	n := with(t, in...)
	told := append(slices.Clone(in), n.Keys()...)
	told = append(told, n.Keys()...)
	right, least, _ := n.Split()
	told = append(told, least)
	told = append(told, right.Keys()...)
	told = append(told, right.Keys()...)
	told = append(told, n.Keys()...)
	for i, one := range told {
		for j, other := range told {
			if i != j && shared(one, other) {
				t.Errorf("the texts %d and %d, %q and %q, share memory", i, j, one, other)
			}
		}
	}
}

// R4: a key is not kept as it was handed in: its bytes may be written anew.
func TestKeysAreNotKept(t *testing.T) {
	n := node.New()
	for _, key := range []string{"first", "other", "third"} {
		room := []byte(key)
		put(t, n, unsafe.String(&room[0], len(room)), len(key))
		copy(room, "zzzzz")
		get(t, n, key, len(key))
	}
	keys(t, n, "first", "other", "third")
	room := []byte("other")
	putAgain(t, n, unsafe.String(&room[0], len(room)), 7, 5)
	copy(room, "zzzzz")
	keys(t, n, "first", "other", "third")
	right := split(t, n, "third")
	keys(t, right, "third")
}

// R7: the same call tells the same, and one that only tells changes nothing.
func TestTellingTwice(t *testing.T) {
	n := with(t, "b", "d", "a", "c", "e")
	before := state(n)
	for range 5 {
		get(t, n, "b", 100)
		notGot(t, n, "x")
		keys(t, n, "a", "b", "c", "d", "e")
		order(t, n, 0xedcba98765413025)
		counts(t, n, 5, 0)
		unchanged(t, n, before)
		insert(t, empty, 0, empty+1, 0, api.OK)
		remove(t, empty, 0, 0, 0, api.ErrRange)
	}
}

// The limits of package api are those that the words above are counted out by.
func TestLimits(t *testing.T) {
	if api.Slots != slots || api.MaxText != 4096 {
		t.Errorf("Slots %d, MaxText %d", api.Slots, api.MaxText)
	}
}

// The chapter's example, and the document's.
func TestExample(t *testing.T) {
	if w := node.Empty(); w != 0xedcba98765432100 {
		t.Errorf("Empty: %#x", w)
	}
	insert(t, 0xedcba98765432100, 0, 0xedcba98765432101, 0, api.OK)
	insert(t, 0xedcba98765432101, 0, 0xedcba98765432012, 1, api.OK)
	remove(t, 0xedcba98765432012, 1, 0xedcba98765432011, 0, api.OK)
}
