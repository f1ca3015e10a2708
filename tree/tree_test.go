package tree_test

import (
	"fmt"
	"math"
	"math/rand"
	"slices"
	"strings"
	"testing"
	"unsafe"

	"hopper/api"
	"hopper/tree"
)

// all is as many keys as a tree may have, and a Scan may tell.
const all = 4096

func put(t *testing.T, x *tree.Tree, key string, value int) {
	t.Helper()
	many := x.Len()
	if was, there, e := x.Put(key, value); was != 0 || there || e != api.OK {
		t.Errorf("Put %.40q: %d %t %d, not a new one", key, was, there, e)
	}
	length(t, x, many+1)
}

func putAgain(t *testing.T, x *tree.Tree, key string, value, want int) {
	t.Helper()
	many := x.Len()
	if was, there, e := x.Put(key, value); was != want || !there || e != api.OK {
		t.Errorf("Put %.40q: %d %t %d, not %d", key, was, there, e, want)
	}
	length(t, x, many)
}

func notPut(t *testing.T, x *tree.Tree, key string) {
	t.Helper()
	before := state(x)
	for _, value := range []int{0, 1, -1, math.MinInt, math.MaxInt} {
		if was, there, e := x.Put(key, value); was != 0 || there || e != api.ErrLong {
			t.Errorf("Put %.40q of %d bytes: %d %t %d, not refused", key, len(key), was, there, e)
		}
	}
	unchanged(t, x, before)
}

func get(t *testing.T, x *tree.Tree, key string, want int) {
	t.Helper()
	value, there, seen := x.Get(key)
	if value != want || !there {
		t.Errorf("Get %.40q: %d %t, not %d", key, value, there, want)
	}
	valid(t, x, seen, "Get of a key that is there, at once")
}

func notGot(t *testing.T, x *tree.Tree, key string) {
	t.Helper()
	value, there, seen := x.Get(key)
	if value != 0 || there {
		t.Errorf("Get %.40q of %d bytes: %d %t, not none", key, len(key), value, there)
	}
	valid(t, x, seen, "Get of a key that is not there, at once")
}

func take(t *testing.T, x *tree.Tree, key string, want int) {
	t.Helper()
	many := x.Len()
	if was, e := x.Take(key); was != want || e != api.OK {
		t.Errorf("Take %.40q: %d %d, not %d", key, was, e, want)
	}
	length(t, x, many-1)
}

func notTaken(t *testing.T, x *tree.Tree, key string) {
	t.Helper()
	before := state(x)
	if was, e := x.Take(key); was != 0 || e != api.ErrNone {
		t.Errorf("Take %.40q of %d bytes: %d %d, not refused", key, len(key), was, e)
	}
	unchanged(t, x, before)
}

// scan holds the keys against those that are wanted, and the values against what Get tells.
func scan(t *testing.T, x *tree.Tree, from, to string, most int, want ...string) {
	t.Helper()
	keys, values, seen, e := x.Scan(from, to, most)
	if e != api.OK || !slices.Equal(keys, want) || len(values) != len(keys) {
		t.Errorf("Scan %.40q to %.40q, %d: %.300q, %d values, %d, not %.300q", from, to, most, keys, len(values), e, want)
		return
	}
	valid(t, x, seen, "Scan, at once")
	for i, key := range keys {
		if value, there, _ := x.Get(key); !there || value != values[i] {
			t.Errorf("Scan %.40q to %.40q, %d: %d beside %.40q, not %d %t", from, to, most, values[i], key, value, there)
		}
	}
}

func notScanned(t *testing.T, x *tree.Tree, from, to string, most int) {
	t.Helper()
	if keys, values, seen, e := x.Scan(from, to, most); len(keys)+len(values)+len(seen) != 0 || e != api.ErrRange {
		t.Errorf("Scan %.40q to %.40q, %d: %d keys, %d values, %d nodes, %d, not refused", from, to, most, len(keys), len(values), len(seen), e)
	}
}

func length(t *testing.T, x *tree.Tree, want int) {
	t.Helper()
	if many := x.Len(); many != want {
		t.Errorf("Len: %d, not %d", many, want)
	}
}

func valid(t *testing.T, x *tree.Tree, seen []api.Seen, what string) {
	t.Helper()
	if !x.Valid(seen) {
		t.Errorf("%s: Valid is false: %.200v", what, seen)
	}
}

func notValid(t *testing.T, x *tree.Tree, seen []api.Seen, what string) {
	t.Helper()
	if x.Valid(seen) {
		t.Errorf("%s: Valid is true: %.200v", what, seen)
	}
}

// state is all that a tree tells, and by which nodes.
func state(x *tree.Tree) string {
	keys, values, seen, e := x.Scan("", "", all)
	return fmt.Sprintf("%d %q %d %v %d", x.Len(), keys, values, seen, e)
}

func unchanged(t *testing.T, x *tree.Tree, before string) {
	t.Helper()
	if now := state(x); now != before {
		t.Errorf("changed: %.400s, not %.400s", now, before)
	}
}

// name is the key of a number: keys stand in the order of their numbers.
func name(n int) string { return fmt.Sprintf("%05d", n) }

func names(numbers ...int) []string {
	var list []string
	for _, n := range numbers {
		list = append(list, name(n))
	}
	return list
}

// upTo has the numbers from 0 to below many.
func upTo(many int) []int {
	list := make([]int, many)
	for i := range list {
		list[i] = i
	}
	return list
}

// orders are some in which so many keys can come or go: rising, falling, from both ends, from the middle, every seventh, and drawn ones.
func orders(many int) map[string][]int {
	list := map[string][]int{"rising": upTo(many), "falling": upTo(many), "ends": nil, "middle": nil, "seventh": nil}
	slices.Reverse(list["falling"])
	for i := range many {
		end := i / 2
		if i%2 == 1 {
			end = many - 1 - i/2
		}
		list["ends"] = append(list["ends"], end)
	}
	list["middle"] = slices.Clone(list["ends"])
	slices.Reverse(list["middle"])
	for first := range 7 {
		for i := first; i < many; i += 7 {
			list["seventh"] = append(list["seventh"], i)
		}
	}
	for seed := range int64(3) {
		list[fmt.Sprint("drawn ", seed)] = rand.New(rand.NewSource(seed)).Perm(many)
	}
	return list
}

// with has a new tree with keys, put in as they stand; the values count from 100 on.
func with(t *testing.T, keys ...string) *tree.Tree {
	t.Helper()
	x := tree.New()
	for i, key := range keys {
		put(t, x, key, 100+i)
	}
	return x
}

// full has as many keys as may be: those of the even numbers; the value of each is its number. They were put in in a drawn order, so that some nodes are full and others are not.
func full(t *testing.T) *tree.Tree {
	t.Helper()
	x := tree.New()
	for _, n := range rand.New(rand.NewSource(5)).Perm(all) {
		put(t, x, name(2*n), 2*n)
	}
	return x
}

// long has so many bytes.
func long(many int) string { return strings.Repeat("k", many) }

// noKeys are keys that are too long.
func noKeys() []string {
	return []string{long(api.MaxText + 1), long(api.MaxText + 2), long(2 * api.MaxText), long(1 << 16), strings.Repeat("\x00", api.MaxText+1), strings.Repeat("\xff", api.MaxText+1), "a" + long(api.MaxText)}
}

// 13.1: a new tree.
func TestNew(t *testing.T) {
	x := tree.New()
	length(t, x, 0)
	scan(t, x, "", "", 1)
	scan(t, x, "", "", all)
	scan(t, x, "a", "b", all)
	for _, key := range append(noKeys(), "", "a", "\x00", "\xff", long(api.MaxText)) {
		notGot(t, x, key)
		notTaken(t, x, key)
	}
	length(t, x, 0)
	put(t, x, "a", 1)
	scan(t, x, "", "", all, "a")
	scan(t, tree.New(), "", "", all)
}

// 13.1: keys that are put in.

func TestPutInAnyOrder(t *testing.T) {
	for _, many := range []int{1, 2, 14, 15, 16, 17, 29, 30, 31, 32, 100, 500} {
		for order, numbers := range orders(many) {
			x := tree.New()
			for _, n := range numbers {
				notGot(t, x, name(n))
				put(t, x, name(n), 7*n)
				get(t, x, name(n), 7*n)
			}
			scan(t, x, "", "", all, names(upTo(many)...)...)
			for n := range many {
				get(t, x, name(n), 7*n)
			}
			if t.Failed() {
				t.Fatalf("%d keys, %s", many, order)
			}
		}
	}
}

func TestAsManyAsMayBe(t *testing.T) {
	want := names(upTo(all)...)
	for order, numbers := range orders(all) {
		x := tree.New()
		for _, n := range numbers {
			put(t, x, name(n), n)
		}
		length(t, x, all)
		scan(t, x, "", "", all, want...)
		for n, key := range want {
			get(t, x, key, n)
			notGot(t, x, key+"\x00")
		}
		if t.Failed() {
			t.Fatal(order)
		}
	}
}

func TestOneMoreThanMayBe(t *testing.T) {
	x := full(t)
	_, _, seen, _ := x.Scan("", "", all)
	// In all places: also in nodes that are full, which it would split.
	for n := range all {
		if was, there, e := x.Put(name(2*n+1), 5); was != 0 || there || e != api.ErrLong {
			t.Fatalf("Put of one more, %d: %d %t %d", n, was, there, e)
		}
	}
	valid(t, x, seen, "behind Puts that were refused")
	for _, key := range []string{"", "\x00", name(1), name(all + 1), name(2*all - 1), name(2 * all), "\xff", long(api.MaxText)} {
		notPut(t, x, key)
		notGot(t, x, key)
	}
	for _, key := range noKeys() {
		notPut(t, x, key)
	}
	valid(t, x, seen, "behind Puts that were refused")
	length(t, x, all)
}

func TestAnotherValueInAFullTree(t *testing.T) {
	x := full(t)
	_, _, seen, _ := x.Scan("", "", all)
	for n := range all {
		putAgain(t, x, name(2*n), -n, 2*n)
	}
	valid(t, x, seen, "behind other values")
	for n := range all {
		get(t, x, name(2*n), -n)
	}
}

func TestTakeOneAndPutANewOne(t *testing.T) {
	x := full(t)
	for i, n := range []int{0, 2, 14, 16, 4096, 8188, 8190} {
		take(t, x, name(n), n)
		put(t, x, name(n+1), i)
		notPut(t, x, name(n))
		get(t, x, name(n+1), i)
		length(t, x, all)
	}
	// All at one place, so that what is free elsewhere does not count.
	for n := 5000; n < 6000; n += 2 {
		take(t, x, name(n), n)
		put(t, x, "zz"+name(n), n)
		notPutQuick(t, x, "zz"+name(n)+"z")
	}
	length(t, x, all)
	keys, _, _, _ := x.Scan("", "", all)
	if len(keys) != all || !slices.IsSorted(keys) {
		t.Errorf("%d keys, sorted: %t", len(keys), slices.IsSorted(keys))
	}
}

// notPutQuick looks at the answer alone, where a tree's whole state would be looked at too often.
func notPutQuick(t *testing.T, x *tree.Tree, key string) {
	t.Helper()
	if was, there, e := x.Put(key, 3); was != 0 || there || e != api.ErrLong {
		t.Errorf("Put %.40q: %d %t %d, not refused", key, was, there, e)
	}
}

func TestPutOfLongKeys(t *testing.T) {
	x := with(t, "a")
	most := long(api.MaxText)
	for range 2 {
		for _, key := range noKeys() {
			notPut(t, x, key)
			notGot(t, x, key)
			notTaken(t, x, key)
		}
		if _, there, _ := x.Get(most); !there {
			put(t, x, most, 5)
		}
		get(t, x, most, 5)
		putAgain(t, x, most, 5, 5)
	}
	put(t, x, long(api.MaxText-1), 7)
	scan(t, x, "", "", all, "a", long(api.MaxText-1), most)
	scan(t, x, most, "", all, most)
	scan(t, x, most+"k", "", all)
	scan(t, x, long(api.MaxText-1), most, all, long(api.MaxText-1))
	scan(t, x, long(api.MaxText-1), most+"k", all, long(api.MaxText-1), most)
	take(t, x, most, 5)
	notGot(t, x, most)
	length(t, x, 2)
}

func TestManyLongKeys(t *testing.T) {
	front := long(api.MaxText - 5)
	x := tree.New()
	var want []string
	for _, n := range orders(100)["drawn 1"] {
		put(t, x, front+name(n), n)
		notPutQuick(t, x, front+name(n)+"0")
	}
	for n := range 100 {
		get(t, x, front+name(n), n)
		notGot(t, x, front+name(n)+"0")
		want = append(want, front+name(n))
	}
	scan(t, x, "", "", all, want...)
	scan(t, x, front+name(40), front+name(60)+"0", all, want[40:61]...)
}

// byBytes are keys in their order: the empty one, keys of which one begins with another, bytes 0 and 255 at all places.
func byBytes() []string {
	return []string{"", "\x00", "\x00\x00", "\x00\x00\x00", "\x00\x01", "\x00a", "\x00\xff", "\x01", "A", "Z", "a", "a\x00", "a\x00\x00", "a\x00\xff", "aa", "aaa", "ab", "a\xff", "a\xff\x00",
		"a\xff\xff", "b", "z", "\x7f", "\x80", "é", "\xfe", "\xff", "\xff\x00", "\xff\x00\xff", "\xffa", "\xff\xff", "\xff\xff\xff"}
}

func TestKeysByBytes(t *testing.T) {
	rising := byBytes()
	for _, numbers := range orders(len(rising)) {
		x := tree.New()
		for _, n := range numbers {
			notGot(t, x, rising[n])
			notTaken(t, x, rising[n])
			put(t, x, rising[n], n+1)
		}
		scan(t, x, "", "", all, rising...)
		for n, key := range rising {
			get(t, x, key, n+1)
			putAgain(t, x, key, -n, n+1)
			scan(t, x, key, "", all, rising[n:]...)
			if key != "" {
				scan(t, x, "", key, all, rising[:n]...)
			}
		}
		for _, key := range []string{"\x00\x02", "\x02", "a\x01", "aab", "ac", "\xff\x01", "\xff\xfe", "\xff\xff\xff\xff"} {
			notGot(t, x, key)
			notTaken(t, x, key)
		}
		for i, n := range numbers {
			take(t, x, rising[n], -n)
			notGot(t, x, rising[n])
			length(t, x, len(rising)-1-i)
		}
		scan(t, x, "", "", all)
	}
}

func TestTheEmptyKey(t *testing.T) {
	x := tree.New()
	notGot(t, x, "")
	put(t, x, "", 3)
	get(t, x, "", 3)
	scan(t, x, "", "", all, "")
	scan(t, x, "", "\x00", all, "")
	scan(t, x, "\x00", "", all)
	putAgain(t, x, "", 4, 3)
	take(t, x, "", 4)
	notGot(t, x, "")
	notTaken(t, x, "")
	length(t, x, 0)
	// And as the first one of many, put in last, and in a tree whose first keys were taken out.
	y := with(t, names(upTo(60)...)...)
	for n := range 40 {
		take(t, y, name(n), 100+n)
	}
	put(t, y, "", 9)
	get(t, y, "", 9)
	scan(t, y, "", name(41), all, "", name(40))
}

func TestPutOfAKeyThatIsThere(t *testing.T) {
	for _, many := range []int{1, 2, 15, 16, 50} {
		x := with(t, names(orders(many)["drawn 2"]...)...)
		_, _, before, _ := x.Scan("", "", all)
		for n := range many {
			value, _, _ := x.Get(name(n))
			putAgain(t, x, name(n), 1000+n, value)
			get(t, x, name(n), 1000+n)
			putAgain(t, x, name(n), 1000+n, 1000+n)
			length(t, x, many)
		}
		scan(t, x, "", "", all, names(upTo(many)...)...)
		for n := range many {
			get(t, x, name(n), 1000+n)
		}
		_, _, after, _ := x.Scan("", "", all)
		if !slices.Equal(before, after) {
			t.Errorf("%d keys: by %v, not %v", many, after, before)
		}
	}
}

func TestValuesMayBeAnyNumbers(t *testing.T) {
	values := []int{0, 1, -1, 15, 16, math.MinInt, math.MaxInt, 1 << 32, -1 << 32}
	x := tree.New()
	for i, value := range values {
		put(t, x, name(i), value)
	}
	for i, value := range values {
		get(t, x, name(i), value)
		for _, other := range values {
			putAgain(t, x, name(i), other, value)
			get(t, x, name(i), other)
			putAgain(t, x, name(i), value, other)
		}
	}
	_, told, _, _ := x.Scan("", "", all)
	if !slices.Equal(told, values) {
		t.Errorf("Scan: %d, not %d", told, values)
	}
	for i, value := range values {
		take(t, x, name(i), value)
	}
}

// 13.1: keys that are taken out.

func TestTakeOfAllInAnyOrder(t *testing.T) {
	for _, many := range []int{1, 2, 15, 16, 17, 31, 64, 200} {
		for order, numbers := range orders(many) {
			x := with(t, names(orders(many)["drawn 0"]...)...)
			left := upTo(many)
			for _, n := range numbers {
				value, _, _ := x.Get(name(n))
				take(t, x, name(n), value)
				notGot(t, x, name(n))
				at, _ := slices.BinarySearch(left, n)
				left = slices.Delete(left, at, at+1)
				scan(t, x, "", "", all, names(left...)...)
			}
			notTaken(t, x, name(0))
			// Behind it all may come again, with nothing left of their values.
			for i, n := range numbers {
				notGot(t, x, name(n))
				put(t, x, name(n), i)
			}
			for i, n := range numbers {
				get(t, x, name(n), i)
			}
			scan(t, x, "", "", all, names(upTo(many)...)...)
			if t.Failed() {
				t.Fatalf("%d keys, %s", many, order)
			}
		}
	}
}

func TestTakeOfAsManyAsMayBe(t *testing.T) {
	for order, numbers := range orders(all) {
		x := full(t)
		for _, n := range numbers {
			take(t, x, name(2*n), 2*n)
		}
		length(t, x, 0)
		scan(t, x, "", "", all)
		for _, n := range numbers {
			put(t, x, name(2*n+1), n)
		}
		notPut(t, x, name(0))
		keys, values, _, _ := x.Scan("", "", all)
		if !slices.IsSorted(keys) || !slices.Equal(values, upTo(all)) {
			t.Errorf("%s: %d keys, sorted: %t", order, len(keys), slices.IsSorted(keys))
		}
		if t.Failed() {
			t.Fatal(order)
		}
	}
}

func TestKeysThatAreNotThere(t *testing.T) {
	x := with(t, "b", "d", "dd")
	for _, key := range append(noKeys(), "", "a", "c", "bb", "b\x00", "ddd", "e", "\xff", long(api.MaxText)) {
		notGot(t, x, key)
		notTaken(t, x, key)
	}
	y := full(t)
	for _, n := range []int{1, 3, 15, 17, 4095, 8187, 8189, 8191, 8193} {
		notGot(t, y, name(n))
		notTaken(t, y, name(n))
	}
	for _, key := range append(noKeys(), "", name(2)+"\x00", name(2)[:4], name(2)[:3], "\xff", long(api.MaxText)) {
		notGot(t, y, key)
		notTaken(t, y, key)
	}
	length(t, y, all)
}

func TestTakeTwice(t *testing.T) {
	x := with(t, names(upTo(40)...)...)
	for n := range 40 {
		take(t, x, name(n), 100+n)
		notTaken(t, x, name(n))
		put(t, x, name(n), 7)
		take(t, x, name(n), 7)
		notTaken(t, x, name(n))
	}
	length(t, x, 0)
}

// 13.2: Scan.

func TestScanRefusesMost(t *testing.T) {
	for _, x := range []*tree.Tree{tree.New(), with(t, "b", "d"), with(t, names(upTo(100)...)...)} {
		before := state(x)
		ends := append(noKeys(), "", "a", "b", "c", "\x00", "\xff")
		for _, most := range []int{0, -1, -2, -all, math.MinInt, math.MinInt + 1, -1 << 32, all + 1, all + 2, 2 * all, 1 << 32, 1<<32 + 1, math.MaxInt - 1, math.MaxInt} {
			for _, from := range ends {
				for _, to := range ends {
					notScanned(t, x, from, to, most)
				}
			}
		}
		unchanged(t, x, before)
	}
}

func TestScanWrittenOut(t *testing.T) {
	x := with(t, "d", "b", "bb", "f")
	for _, c := range []struct {
		from, to string
		most     int
		want     []string
	}{
		{"", "", 1, []string{"b"}},
		{"", "", 3, []string{"b", "bb", "d"}},
		{"", "", 4, []string{"b", "bb", "d", "f"}},
		{"", "", 5, []string{"b", "bb", "d", "f"}},
		{"", "", all - 1, []string{"b", "bb", "d", "f"}},
		{"", "", all, []string{"b", "bb", "d", "f"}},
		{"a", "", all, []string{"b", "bb", "d", "f"}},
		{"b", "", all, []string{"b", "bb", "d", "f"}},
		{"b\x00", "", all, []string{"bb", "d", "f"}},
		{"c", "", 2, []string{"d", "f"}},
		{"f", "", all, []string{"f"}},
		{"f\x00", "", all, nil},
		{"g", "", 1, nil},
		{"", "a", all, nil},
		{"", "b", all, nil},
		{"", "b\x00", all, []string{"b"}},
		{"", "f", all, []string{"b", "bb", "d"}},
		{"", "f", 3, []string{"b", "bb", "d"}},
		{"", "f", 2, []string{"b", "bb"}},
		{"", "g", all, []string{"b", "bb", "d", "f"}},
		{"b", "d", all, []string{"b", "bb"}},
		{"bb", "bc", 1, []string{"bb"}},
		{"c", "e", all, []string{"d"}},
		{"c", "d", all, nil},
		{"b", "b", all, nil},
		{"d", "b", all, nil},
		{"z", "a", all, nil},
		{"a", "\x00", all, nil},
		{"g", "h", all, nil},
	} {
		scan(t, x, c.from, c.to, c.most, c.want...)
	}
	keys, values, _, e := x.Scan("b", "f", all)
	if !slices.Equal(keys, []string{"b", "bb", "d"}) || !slices.Equal(values, []int{101, 102, 100}) || e != api.OK {
		t.Errorf("%q %d %d", keys, values, e)
	}
}

// wanted is what a Scan of a list of keys tells.
func wanted(rising []string, from, to string, most int) []string {
	var list []string
	for _, key := range rising {
		if key >= from && (to == "" || key < to) && len(list) < most {
			list = append(list, key)
		}
	}
	return list
}

func TestScanOfManyNodes(t *testing.T) {
	const many = 120
	for _, order := range []string{"rising", "falling", "middle", "drawn 0"} {
		x := tree.New()
		var rising []string
		for n := range many {
			rising = append(rising, name(2*n))
		}
		for _, n := range orders(many)[order] {
			put(t, x, name(2*n), n)
		}
		for from := 0; from < 2*many; from += 3 {
			for to := 0; to < 2*many+1; to += 5 {
				for _, most := range []int{1, (to - from) / 2, (to-from)/2 + 1, all} {
					if most > 0 {
						want := wanted(rising, name(from), name(to), most)
						scan(t, x, name(from), name(to), most, want...)
					}
				}
			}
			for most := 1; most <= many+1; most += 8 {
				scan(t, x, name(from), "", most, wanted(rising, name(from), "", most)...)
				scan(t, x, "", name(from), most, wanted(rising, "", name(from), most)...)
			}
		}
		for most := 1; most <= many+1; most++ {
			scan(t, x, "", "", most, rising[:min(most, many)]...)
		}
	}
}

func TestScanOfAsManyAsMayBe(t *testing.T) {
	x := full(t)
	keys, values, _, e := x.Scan("", "", all)
	if len(keys) != all || len(values) != all || e != api.OK {
		t.Errorf("%d keys, %d values, %d", len(keys), len(values), e)
	}
	for n := range keys {
		if keys[n] != name(2*n) || values[n] != 2*n {
			t.Fatalf("at %d: %q %d", n, keys[n], values[n])
		}
	}
	scan(t, x, "", "", all-1, keys[:all-1]...)
	scan(t, x, name(1), "", all, keys[1:]...)
	scan(t, x, "", name(2*all-2), all, keys[:all-1]...)
	scan(t, x, "", name(2*all-1), all, keys...)
	scan(t, x, name(4000), name(4100), all, keys[2000:2050]...)
	scan(t, x, name(4000), name(4100), 1, keys[2000])
}

// Two trees do not touch one another.

func TestTreesAreApart(t *testing.T) {
	a, b := tree.New(), tree.New()
	put(t, a, "k", 1)
	length(t, b, 0)
	notGot(t, b, "k")
	notTaken(t, b, "k")
	scan(t, b, "", "", all)
	put(t, b, "k", 2)
	put(t, b, "j", 3)
	get(t, a, "k", 1)
	before := state(a)
	_, _, seen, _ := a.Scan("", "", all)
	for n := range 100 {
		put(t, b, name(n), n)
	}
	for n := range 50 {
		take(t, b, name(n), n)
	}
	unchanged(t, a, before)
	valid(t, a, seen, "behind Puts and Takes of another tree")
	before = state(b)
	for n := range 100 {
		put(t, a, name(n), -n)
	}
	take(t, a, "k", 1)
	unchanged(t, b, before)
	get(t, b, "k", 2)
	length(t, tree.New(), 0)
}

// R4: what is told is new memory.

// spoil writes over all of a list, its spare room, too.
func spoil[E any](list []E, with E) {
	list = list[:cap(list)]
	for i := range list {
		list[i] = with
	}
}

func TestListsAreNew(t *testing.T) {
	for _, many := range []int{0, 1, 5, 15, 40, 300} {
		x := with(t, names(upTo(many)...)...)
		before := state(x)
		keys, values, seen, _ := x.Scan("", "", all)
		_, _, got := x.Get(name(3))
		otherKeys, otherValues, otherSeen, _ := x.Scan("", "", all)
		_, _, otherGot := x.Get(name(3))
		spoil(keys, "spoilt")
		spoil(values, -1)
		spoil(seen, api.Seen{Node: -1, Inserts: -1, Splits: -1})
		spoil(got, api.Seen{Node: -2, Inserts: -2, Splits: -2})
		valid(t, x, otherSeen, "Scan, behind another list that was spoilt")
		valid(t, x, otherGot, "Get, behind another list that was spoilt")
		if now := fmt.Sprintf("%d %q %d %v %d", x.Len(), otherKeys, otherValues, otherSeen, api.OK); now != before {
			t.Errorf("other lists were changed: %.400s, not %.400s", now, before)
		}
		unchanged(t, x, before)
	}
}

func TestWhatWasToldStays(t *testing.T) {
	x := with(t, names(upTo(50)...)...)
	keys, values, seen, _ := x.Scan("", "", all)
	_, _, got := x.Get(name(3))
	before := fmt.Sprint(keys, values, seen, got)
	for n := range 50 {
		x.Put(name(n), -1)
		x.Put(name(n)+"a", n)
		x.Take(name(n))
		x.Valid(seen)
	}
	if now := fmt.Sprint(keys, values, seen, got); now != before {
		t.Errorf("told: %.400s, not %.400s", now, before)
	}
}

// shared tells whether two texts have a byte in common in memory.
func shared(a, b string) bool {
	if a == "" || b == "" {
		return false
	}
	first, second := uintptr(unsafe.Pointer(unsafe.StringData(a))), uintptr(unsafe.Pointer(unsafe.StringData(b)))
	return first < second+uintptr(len(b)) && second < first+uintptr(len(a))
}

func TestToldTextsAreNew(t *testing.T) {
	x := tree.New()
	var told []string
	for n := range 40 {
		told = append(told, strings.Repeat(name(n), 8))
		put(t, x, told[n], n)
	}
	for range 2 {
		keys, _, _, _ := x.Scan("", "", all)
		told = append(told, keys...)
		keys, _, _, _ = x.Scan(told[3], told[30], 20)
		told = append(told, keys...)
	}
	for i, one := range told {
		for j, other := range told[:i] {
			if shared(one, other) {
				t.Errorf("the texts %d and %d, %q and %q, share memory", i, j, one, other)
			}
		}
	}
}

// R4: a key is not kept as it was handed in: its bytes may be written anew. (With as many keys nodes are split, too.)
func TestKeysAreNotKept(t *testing.T) {
	x := tree.New()
	room := make([]byte, 5)
	for n := range 100 {
		copy(room, name(n))
		put(t, x, unsafe.String(&room[0], 5), n)
		putAgain(t, x, unsafe.String(&room[0], 5), n, n)
		copy(room, "zzzzz")
		get(t, x, name(n), n)
	}
	scan(t, x, "", "", all, names(upTo(100)...)...)
	copy(room, name(50))
	from := unsafe.String(&room[0], 5)
	keys, _, seen, _ := x.Scan(from, "", all)
	_, _, got := x.Get(from)
	copy(room, "zzzzz")
	if !slices.Equal(keys, names(upTo(100)[50:]...)) {
		t.Errorf("%q", keys)
	}
	valid(t, x, seen, "Scan from a text that was written anew")
	valid(t, x, got, "Get of a text that was written anew")
	for n := range 100 {
		copy(room, name(n))
		take(t, x, unsafe.String(&room[0], 5), n)
	}
}

// R4: a list that is handed to Valid is neither changed nor kept, nor is its spare room read.
func TestValidLeavesItsList(t *testing.T) {
	x := with(t, names(upTo(60)...)...)
	_, _, seen, _ := x.Scan("", "", all)
	room := append(slices.Clone(seen), api.Seen{Node: -1, Inserts: -1, Splits: -1}, api.Seen{})
	before := slices.Clone(room)
	handed := room[:len(seen)]
	for range 3 {
		valid(t, x, handed, "with spare room")
		if !slices.Equal(room, before) {
			t.Fatalf("%v, not %v", room, before)
		}
	}
	spoil(room, api.Seen{})
	valid(t, x, seen, "behind a list that was spoilt")
	scan(t, x, "", "", all, names(upTo(60)...)...)
	copy(room, before)
	x.Take(name(30))
	notValid(t, x, handed, "behind a Take")
	if !slices.Equal(room, before) {
		t.Errorf("%v, not %v", room, before)
	}
}

// R7: the same call tells the same, and one that only tells changes nothing.
func TestTellingTwice(t *testing.T) {
	x := with(t, names(orders(80)["drawn 1"]...)...)
	before := state(x)
	_, _, seen, _ := x.Scan("", "", all)
	for range 5 {
		get(t, x, name(7), 100+slices.Index(orders(80)["drawn 1"], 7))
		notGot(t, x, "x")
		scan(t, x, name(3), name(6), 2, name(3), name(4))
		length(t, x, 80)
		valid(t, x, seen, "again")
		x.Valid(nil)
		x.Valid([]api.Seen{{Node: 1}})
		unchanged(t, x, before)
	}
}

// The limits of package api are those that the tests count by.
func TestLimits(t *testing.T) {
	if api.MaxItems != all || api.MaxText != 4096 || api.Slots != 15 {
		t.Errorf("MaxItems %d, MaxText %d, Slots %d", api.MaxItems, api.MaxText, api.Slots)
	}
}

// The chapter's example.
func TestExample(t *testing.T) {
	x := tree.New()
	put(t, x, "b", 1)
	put(t, x, "d", 2)
	keys, values, seen, e := x.Scan("a", "d", 9)
	if !slices.Equal(keys, []string{"b"}) || !slices.Equal(values, []int{1}) || e != api.OK {
		t.Errorf("Scan: %q %d %d", keys, values, e)
	}
	valid(t, x, seen, "at once")
	putAgain(t, x, "b", 5, 1)
	valid(t, x, seen, "behind another value")
	put(t, x, "c", 3)
	notValid(t, x, seen, "behind c")
	_, there, miss := x.Get("x")
	if there {
		t.Error("x is there")
	}
	valid(t, x, miss, "at once")
	put(t, x, "x", 4)
	notValid(t, x, miss, "behind x")
}
