package auth_test

import (
	"regexp"
	"strings"
	"testing"

	"hopper/api"
	"hopper/auth"
)

// 25.1: which names and keys are put in, and which are taken.

var maybe = regexp.MustCompile(`\A[a-z0-9.]{1,32}\z`)

func namesThatMayBe() []string {
	r := strings.Repeat
	return []string{
		"a", "z", "0", "9", ".", "..", "a.b", ".a", "a.", "ann", "bob", "09az.", "0.0", r("a", 31), r("a", 32), r(".", 32), r("9", 31) + "z", "abcdefghijklmnopqrstuvwxyz", "0123456789",
	}
}

func namesThatMayNotBe() []string {
	r := strings.Repeat
	return []string{
		"", "A", "Z", "/", ":", "`", "{", "-", "@", "[", "_", " ", ",", "\x00", "\x7f", "\x80", "\xff", "\u00e9", "\u0430", "\uff0e", "\t", "\n", "*",
		"a/b", "a:b", "a`", "{a", "a-b", "a,b", "a b", " a", "a ", "ann\n", "\nann", "ann\x00", "\x00ann", "an\x00n", "Ann", "anN", "ann\xff",
		r("a", 33), r(".", 33), r("a", 34), r("a", 64), r("a", 288), r("0", 1<<16), r("a", 31) + "A", r("a", 32) + "A", r("a", 31) + "\u00e9",
	}
}

func TestNamesThatMayBe(t *testing.T) {
	for _, name := range namesThatMayBe() {
		if !maybe.MatchString(name) {
			t.Errorf("the test's own mistake: %q", name)
		}
		k := tableOf(t, name, "key")
		has(t, k, map[string]string{name: "key"})
		take(t, k, name, api.OK)
		named(t, k)
	}
}

func TestNamesThatMayNotBe(t *testing.T) {
	k := tableOf(t, "ann", "k")
	for _, name := range namesThatMayNotBe() {
		if maybe.MatchString(name) {
			t.Errorf("the test's own mistake: %q", name)
		}
		put(t, k, name, "key", api.ErrName)
		take(t, k, name, api.ErrNone)
		checked(t, k, name, "c", libraryProof("key", name, "c"), api.ErrAuth)
	}
	has(t, k, map[string]string{"ann": "k"})
}

// Each byte alone, at the front, within, at the end, and as the last one of the longest name and of one that is longer by it.
func TestNamesOfEachByte(t *testing.T) {
	k, want := auth.New(), map[string]string{}
	for b := range 256 {
		one := string([]byte{byte(b)})
		for _, name := range []string{one, one + "a", "a" + one, "a" + one + "a", strings.Repeat("a", 31) + one, strings.Repeat("a", 32) + one, one + strings.Repeat("a", 32)} {
			if maybe.MatchString(name) {
				put(t, k, name, "key", api.OK)
				want[name] = "key"
			} else {
				put(t, k, name, "key", api.ErrName)
			}
		}
	}
	// Five of each byte that may be, of which aa comes twice.
	if len(want) != 5*37-1 {
		t.Error(len(want), "names")
	}
	has(t, k, want)
}

func TestKeysThatMayBe(t *testing.T) {
	for _, key := range keysThatMayBe() {
		has(t, tableOf(t, "ann", key), map[string]string{"ann": key})
	}
	for n := 1; n <= 64; n++ {
		has(t, tableOf(t, "ann", mixed(n)), map[string]string{"ann": mixed(n)})
	}
}

func TestKeysThatMayNotBe(t *testing.T) {
	k := tableOf(t, "ann", "k")
	for _, n := range []int{0, 65, 66, 128, 256, 257, 320, 1000, 1 << 16, 1<<16 + 1, 1 << 20} {
		for _, key := range []string{mixed(n), strings.Repeat("\x00", n), strings.Repeat("\xff", n), strings.Repeat("k", n)} {
			put(t, k, "ann", key, api.ErrLong)
			put(t, k, "bob", key, api.ErrLong)
			has(t, k, map[string]string{"ann": "k"})
			checked(t, k, "bob", "c", libraryProof(key, "bob", "c"), api.ErrAuth)
		}
	}
}

// R1: the name is looked at ahead of the key.
func TestNameAheadOfKey(t *testing.T) {
	k := auth.New()
	for _, name := range []string{"", "A", strings.Repeat("a", 33), "\x00"} {
		for _, n := range []int{0, 65, 1000} {
			put(t, k, name, mixed(n), api.ErrName)
		}
	}
	put(t, k, "a", "", api.ErrLong)
	put(t, k, "a", mixed(65), api.ErrLong)
	named(t, k)
}

func TestPutOfANameThatIsThere(t *testing.T) {
	k := tableOf(t, "ann", "k", "bob", "b")
	for _, key := range keysThatMayBe() {
		put(t, k, "ann", key, api.OK)
		has(t, k, map[string]string{"ann": key, "bob": "b"})
		put(t, k, "ann", key, api.OK)
		has(t, k, map[string]string{"ann": key, "bob": "b"})
	}
	put(t, k, "bob", "k", api.OK)
	put(t, k, "ann", "k", api.OK)
	has(t, k, map[string]string{"ann": "k", "bob": "k"})
}

// What is refused changes nothing: neither the key that is there, nor how many there are.
func TestWhatIsRefusedChangesNothing(t *testing.T) {
	k := tableOf(t, "ann", "k")
	put(t, k, "ann", "", api.ErrLong)
	put(t, k, "ann", mixed(65), api.ErrLong)
	put(t, k, "bob", "", api.ErrLong)
	put(t, k, "Ann", "x", api.ErrName)
	take(t, k, "bob", api.ErrNone)
	take(t, k, "Ann", api.ErrNone)
	take(t, k, "", api.ErrNone)
	checked(t, k, "ann", "c", "", api.ErrAuth)
	has(t, k, map[string]string{"ann": "k"})
}

func TestTake(t *testing.T) {
	k := auth.New()
	take(t, k, "ann", api.ErrNone)
	put(t, k, "ann", "k", api.OK)
	put(t, k, "bob", "b", api.OK)
	take(t, k, "an", api.ErrNone)
	take(t, k, "annn", api.ErrNone)
	take(t, k, "ANN", api.ErrNone)
	take(t, k, "k", api.ErrNone)
	take(t, k, "ann", api.OK)
	take(t, k, "ann", api.ErrNone)
	has(t, k, map[string]string{"bob": "b"})
	put(t, k, "ann", "other", api.OK)
	has(t, k, map[string]string{"ann": "other", "bob": "b"})
	take(t, k, "bob", api.OK)
	take(t, k, "ann", api.OK)
	take(t, k, "ann", api.ErrNone)
	take(t, k, "bob", api.ErrNone)
	named(t, k)
	put(t, k, "ann", "k", api.OK)
	has(t, k, map[string]string{"ann": "k"})
}

// A name that was taken has no key: not its last one, nor an empty one.
func TestTakenNamesHaveNoKey(t *testing.T) {
	c := libraryChallenge(1, 1)
	k := tableOf(t, "ann", "k")
	put(t, k, "ann", "x", api.OK)
	take(t, k, "ann", api.OK)
	for _, key := range []string{"k", "x", "", "\x00", "ann"} {
		checked(t, k, "ann", c, libraryProof(key, "ann", c), api.ErrAuth)
	}
	checked(t, k, "ann", c, "", api.ErrAuth)
}

func TestAFullTable(t *testing.T) {
	k, want := full(t)
	has(t, k, want)
	put(t, k, "a", "key", api.ErrLong)
	put(t, k, "n05000", "key", api.ErrLong)
	put(t, k, "zz", "", api.ErrLong)
	put(t, k, "zz", mixed(65), api.ErrLong)
	put(t, k, "A", "key", api.ErrName)
	put(t, k, "", "", api.ErrName)
	put(t, k, "n00000", "", api.ErrLong)
	put(t, k, "n04095", mixed(65), api.ErrLong)
	named(t, k, numbered(api.MaxItems)...)
	// A name that is there takes another key.
	for _, name := range []string{"n00000", "n02048", "n04095"} {
		put(t, k, name, "other", api.OK)
		want[name] = "other"
	}
	has(t, k, want)
	put(t, k, "a", "key", api.ErrLong)
}

// One goes, and one more may be: just one.
func TestAFullTableOfWhichOneIsTaken(t *testing.T) {
	k, want := full(t)
	for _, name := range []string{"n00000", "n04095", "n01234"} {
		take(t, k, name, api.OK)
		delete(want, name)
		more := "z" + name
		put(t, k, more, "key", api.OK)
		want[more] = "key"
		put(t, k, name, "key", api.ErrLong)
		put(t, k, "a", "key", api.ErrLong)
		put(t, k, more, "another", api.OK)
		want[more] = "another"
	}
	has(t, k, want)
	take(t, k, "n00001", api.OK)
	take(t, k, "n00002", api.OK)
	put(t, k, "n00001", "1", api.OK)
	put(t, k, "n00001", "2", api.OK)
	put(t, k, "n00002", "3", api.OK)
	put(t, k, "a", "key", api.ErrLong)
	want["n00001"], want["n00002"] = "2", "3"
	has(t, k, want)
}

// What is put in again, or refused, does not count as one more.
func TestOneLessThanFull(t *testing.T) {
	k, want := full(t)
	take(t, k, "n00007", api.OK)
	delete(want, "n00007")
	for range 3 {
		put(t, k, "n00008", "again", api.OK)
		put(t, k, "N", "key", api.ErrName)
		put(t, k, "a", "", api.ErrLong)
		take(t, k, "a", api.ErrNone)
	}
	want["n00008"] = "again"
	put(t, k, "a", "key", api.OK)
	want["a"] = "key"
	put(t, k, "b", "key", api.ErrLong)
	has(t, k, want)
}

// All are taken, and as many may be put in again.
func TestAFullTableThatIsEmptied(t *testing.T) {
	k, want := full(t)
	for name := range want {
		take(t, k, name, api.OK)
	}
	named(t, k)
	for name := range want {
		put(t, k, name, name, api.OK)
	}
	put(t, k, "a", "key", api.ErrLong)
	has(t, k, want)
}
