package auth_test

import (
	"math/rand"
	"slices"
	"strings"
	"testing"

	"hopper/api"
	"hopper/auth"
)

// 25.1: the names, by bytes, rising.

func TestNamesOfNone(t *testing.T) {
	k := auth.New()
	named(t, k)
	put(t, k, "A", "k", api.ErrName)
	put(t, k, "a", "", api.ErrLong)
	named(t, k)
}

func TestNamesOfOne(t *testing.T) {
	for _, name := range namesThatMayBe() {
		named(t, tableOf(t, name, "k"), name)
	}
}

// risingNames are in order as they are written out: a point, digits, letters; a name ahead of those that begin with it.
func risingNames() []string {
	r := strings.Repeat
	return []string{
		".", "..", "...", "..a", ".0", ".a", "0", "0.", "00", "09", "0a", "1", "10", "1000", "2", "9", "9.9", "99", "9z",
		"a", "a.", "a.b", "a0", "a9", "aa", "aaa", r("a", 31), r("a", 32), r("a", 31) + "b", "ab", "an", "ann", "ann.", "ann0", "anna", "anne", "b", "ba", "bob", "z", "z.", "z9", "zz", r("z", 32),
	}
}

func TestNamesInAnyOrder(t *testing.T) {
	names := risingNames()
	backwards := slices.Clone(names)
	slices.Reverse(backwards)
	orders := [][]string{names, backwards}
	r := rand.New(rand.NewSource(1))
	for range 20 {
		drawn := slices.Clone(names)
		r.Shuffle(len(drawn), func(i, j int) { drawn[i], drawn[j] = drawn[j], drawn[i] })
		orders = append(orders, drawn)
	}
	for _, order := range orders {
		k := auth.New()
		for at, name := range order {
			put(t, k, name, order[len(order)-1-at], api.OK)
		}
		named(t, k, names...)
	}
}

// Keys do not matter for the order, nor when they were put in.
func TestNamesStayInOrder(t *testing.T) {
	k := tableOf(t, "b", "1", "a", "2", "c", "0")
	named(t, k, "a", "b", "c")
	put(t, k, "a", "9", api.OK)
	named(t, k, "a", "b", "c")
	put(t, k, "c", "\x00", api.OK)
	named(t, k, "a", "b", "c")
}

func TestNamesBehindTake(t *testing.T) {
	names := risingNames()
	k := auth.New()
	for _, name := range names {
		put(t, k, name, "k", api.OK)
	}
	left := slices.Clone(names)
	for _, at := range []int{len(names) - 1, 0, 5, 20, 20, 10, 0} {
		take(t, k, left[at], api.OK)
		left = slices.Delete(left, at, at+1)
		named(t, k, left...)
	}
	take(t, k, names[0], api.ErrNone)
	named(t, k, left...)
	put(t, k, names[0], "k", api.OK)
	named(t, k, slices.Concat(names[:1], left)...)
}

func TestNamesOfAsManyAsMayBe(t *testing.T) {
	k := auth.New()
	names := numbered(api.MaxItems)
	for _, at := range rand.New(rand.NewSource(2)).Perm(len(names)) {
		put(t, k, names[at], "k", api.OK)
	}
	named(t, k, names...)
}
