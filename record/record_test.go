package record_test

import (
	"fmt"
	"math"
	"slices"
	"strings"
	"testing"
	"unsafe"

	"hopper/api"
	"hopper/record"
)

type row = []api.Value

var (
	null      = api.Value{}
	minusZero = math.Copysign(0, -1)
)

func num(n int64) api.Value { return api.Value{Kind: api.VInt, N: n} }

func text(s string) api.Value { return api.Value{Kind: api.VText, S: s} }

func float(x float64) api.Value { return api.Value{Kind: api.VFloat, C: complex(x, 0)} }

func pair(a, b float64) api.Value { return api.Value{Kind: api.VPair, C: complex(a, b)} }

func of(n int64) row { return row{num(n)} }

// kinds has a value of each kind.
func kinds() row {
	return row{null, {Kind: api.VBool, N: 1}, num(math.MinInt64), float(minusZero), pair(math.Inf(-1), 2), text("text")}
}

func nulls(many int) row { return make(row, many) }

// number puts a word without flags together by the chapter's bits.
func number(epoch, seq uint64) uint64 { return epoch<<23 + seq<<3 }

const (
	locked = 1 << iota
	absent
	latest
)

const greatest = 1<<54 + 1<<23 - 8 // the epoch 1 << 31 and the sequence 1<<20 - 1

// numbers are some that may be, from the least one to the greatest.
func numbers() []uint64 {
	return []uint64{0, 8, 16, 1<<23 - 16, 1<<23 - 8, 1 << 23, 1<<23 + 8, 3 << 23, 5<<23 + 5<<3, 1<<43 - 8, 1 << 43,
		1<<53 - 8, 1 << 53, 1<<54 - 8, 1 << 54, 1<<54 + 8, greatest - 8, greatest}
}

// noNumbers are some that may not be: as words, or for their flags.
func noNumbers() []uint64 {
	list := []uint64{greatest + 8, greatest + 16, 1<<54 + 1<<23 + 1<<22, 1<<54 + 1<<24, 1<<55 - 8, 1 << 55, 1 << 62, 1 << 63, 1<<63 + 1<<23, math.MaxUint64 - 7}
	for _, n := range append(numbers(), list...) {
		for flags := uint64(1); flags <= 7; flags++ {
			list = append(list, n|flags)
		}
	}
	return list
}

type badRow struct {
	r row
	e api.Errno
}

// badRows are some that chapter 4's Check refuses.
func badRows() []badRow {
	list := []badRow{
		{nulls(33), api.ErrLong}, {nulls(34), api.ErrLong}, {nulls(1 << 13), api.ErrLong},
		{append(nulls(32), num(1)), api.ErrLong}, {slices.Repeat(row{{Kind: 9}}, 33), api.ErrLong},
		{append(nulls(31), api.Value{Kind: -1}), api.ErrValue}, {append(row{{Kind: 6}}, nulls(31)...), api.ErrValue},
	}
	for _, v := range []api.Value{
		{Kind: -1}, {Kind: 6}, {Kind: 9}, {Kind: math.MaxInt}, {Kind: math.MinInt},
		{N: 1}, {C: 1}, {S: "x"}, {Kind: api.VBool, N: 2}, {Kind: api.VBool, N: -1}, {Kind: api.VInt, S: "x"}, {Kind: api.VInt, C: complex(0, minusZero)},
		{Kind: api.VFloat, C: complex(0, 1)}, {Kind: api.VFloat, C: complex(math.NaN(), 0)}, {Kind: api.VFloat, C: complex(0, minusZero)}, {Kind: api.VFloat, N: 1},
		{Kind: api.VPair, C: complex(1, math.NaN())}, {Kind: api.VPair, S: "x"}, {Kind: api.VText, N: 1},
		{Kind: api.VText, S: strings.Repeat("x", api.MaxText+1)},
	} {
		list = append(list, badRow{row{v}, api.ErrValue}, badRow{row{num(1), v}, api.ErrValue}, badRow{row{v, num(1)}, api.ErrValue})
	}
	return list
}

// goodRows are some that may be.
func goodRows() []row {
	return []row{nil, {}, of(5), kinds(), nulls(31), nulls(32), slices.Repeat(row{text("abc")}, 32),
		{text(strings.Repeat("x", api.MaxText))}, {float(math.Inf(1)), pair(minusZero, minusZero)}, {text("")}, {text("\xff\x00")}}
}

func sameValue(a, b api.Value) bool {
	return a.Kind == b.Kind && a.N == b.N && a.S == b.S &&
		math.Float64bits(real(a.C)) == math.Float64bits(real(b.C)) && math.Float64bits(imag(a.C)) == math.Float64bits(imag(b.C))
}

func sameRow(a, b row) bool { return slices.EqualFunc(a, b, sameValue) }

func short(r row) string { return fmt.Sprintf("%.200q", fmt.Sprint(r)) }

func fresh(t *testing.T, n uint64, r row, gone bool) *record.Record {
	t.Helper()
	x, e := record.New(n, r, gone)
	if e != api.OK || x == nil {
		t.Fatalf("New of %d, %s, %t: %d", n, short(r), gone, e)
	}
	return x
}

func notNew(t *testing.T, n uint64, r row, gone bool, want api.Errno) {
	t.Helper()
	if x, e := record.New(n, r, gone); x != nil || e != want {
		t.Errorf("New of %d, %s, %t: a record is %t, %d, not %d", n, short(r), gone, x != nil, e, want)
	}
}

func word(t *testing.T, x *record.Record, want uint64) {
	t.Helper()
	if w := x.Word(); w != want {
		t.Errorf("Word: %d, not %d", w, want)
	}
}

func versions(t *testing.T, x *record.Record, want ...uint64) {
	t.Helper()
	if list := x.Versions(); !slices.Equal(list, want) {
		t.Errorf("Versions: %d, not %d", list, want)
	}
}

func lock(t *testing.T, x *record.Record, want bool) {
	t.Helper()
	if got := x.Lock(); got != want {
		t.Errorf("Lock: %t, not %t", got, want)
	}
}

func unlock(t *testing.T, x *record.Record, want api.Errno) {
	t.Helper()
	if e := x.Unlock(); e != want {
		t.Errorf("Unlock: %d, not %d", e, want)
	}
}

func read(t *testing.T, x *record.Record, want row, wantWord uint64) {
	t.Helper()
	if r, w, e := x.Read(); !sameRow(r, want) || w != wantWord || e != api.OK {
		t.Errorf("Read: %s %d %d, not %s %d", short(r), w, e, short(want), wantWord)
	}
}

func notRead(t *testing.T, x *record.Record) {
	t.Helper()
	if r, w, e := x.Read(); len(r) != 0 || w != 0 || e != api.ErrLocked {
		t.Errorf("Read: %s %d %d, not refused", short(r), w, e)
	}
}

func install(t *testing.T, x *record.Record, n uint64, r row, gone, keep bool, want api.Errno) {
	t.Helper()
	if e := x.Install(n, r, gone, keep); e != want {
		t.Errorf("Install of %d, %s, %t, %t: %d, not %d", n, short(r), gone, keep, e, want)
	}
}

func at(t *testing.T, x *record.Record, epoch int, want row) {
	t.Helper()
	if r, there, e := x.At(epoch); !sameRow(r, want) || !there || e != api.OK {
		t.Errorf("At %d: %s %t %d, not %s", epoch, short(r), there, e, short(want))
	}
}

func nothingAt(t *testing.T, x *record.Record, epochs ...int) {
	t.Helper()
	for _, epoch := range epochs {
		if r, there, e := x.At(epoch); len(r) != 0 || there || e != api.OK {
			t.Errorf("At %d: %s %t %d, not nothing", epoch, short(r), there, e)
		}
	}
}

func notAt(t *testing.T, x *record.Record, epoch int) {
	t.Helper()
	if r, there, e := x.At(epoch); len(r) != 0 || there || e != api.ErrRange {
		t.Errorf("At %d: %s %t %d, not refused", epoch, short(r), there, e)
	}
}

func prune(t *testing.T, x *record.Record, epoch, want int) {
	t.Helper()
	if n, e := x.Prune(epoch); n != want || e != api.OK {
		t.Errorf("Prune %d: %d %d, not %d", epoch, n, e, want)
	}
}

func notPrune(t *testing.T, x *record.Record, epoch int) {
	t.Helper()
	if n, e := x.Prune(epoch); n != 0 || e != api.ErrRange {
		t.Errorf("Prune %d: %d %d, not refused", epoch, n, e)
	}
}

// state tells all that can be asked of a record, without a change of it.
func state(x *record.Record, epochs ...int) string {
	var told strings.Builder
	r, w, e := x.Read()
	fmt.Fprintln(&told, x.Word(), x.Versions(), r, w, e)
	for _, epoch := range append(epochs, 0, 1, 2, 3, 4, 5, 6, 7, api.MaxEpoch-1, api.MaxEpoch) {
		r, there, e := x.At(epoch)
		fmt.Fprintln(&told, epoch, r, there, e)
	}
	return told.String()
}

func unchanged(t *testing.T, x *record.Record, before string, epochs ...int) {
	t.Helper()
	if now := state(x, epochs...); now != before {
		t.Errorf("%.600s\nnot\n%.600s", now, before)
	}
}

// three has versions of the epochs 2, 4 and 6, and is locked.
func three(t *testing.T) *record.Record {
	t.Helper()
	x := fresh(t, number(2, 1), of(2), false)
	lock(t, x, true)
	install(t, x, number(4, 1), of(4), false, true, api.OK)
	install(t, x, number(6, 1), of(6), false, true, api.OK)
	return x
}

// outside has epochs that may not be.
func outside() []int {
	return []int{-1, -2, -1 << 31, math.MinInt, math.MinInt + 1, math.MinInt64 >> 1, 1<<31 + 1, 1<<31 + 2, 1 << 32, 1<<32 + 3, 1 << 41, 1<<41 + 2, math.MaxInt - 1, math.MaxInt}
}

// 11.1: New, Word and Versions.

func TestNewTellsItsWord(t *testing.T) {
	for _, n := range numbers() {
		for _, r := range goodRows() {
			x := fresh(t, n, r, false)
			word(t, x, n+latest)
			versions(t, x, n)
			read(t, x, r, n+latest)
			unlock(t, x, api.ErrLocked)
			lock(t, x, true)
			word(t, x, n+latest+locked)
			versions(t, x, n)
		}
	}
}

func TestNewOfOneThatIsGone(t *testing.T) {
	for _, n := range numbers() {
		for _, r := range goodRows() {
			x := fresh(t, n, r, true)
			word(t, x, n+latest+absent)
			versions(t, x, n)
			read(t, x, nil, n+latest+absent)
			nothingAt(t, x, 0, int(n>>23), api.MaxEpoch)
			unlock(t, x, api.ErrLocked)
			lock(t, x, true)
			word(t, x, n+latest+absent+locked)
		}
	}
}

func TestNewRefusesNumbers(t *testing.T) {
	for _, n := range noNumbers() {
		for _, gone := range []bool{false, true} {
			notNew(t, n, nil, gone, api.ErrTid)
			notNew(t, n, of(5), gone, api.ErrTid)
			notNew(t, n, nulls(33), gone, api.ErrTid)
			notNew(t, n, row{{Kind: 9}}, gone, api.ErrTid)
		}
	}
	notNew(t, math.MaxUint64, nil, false, api.ErrTid)
	for flags := uint64(1); flags <= 7; flags++ {
		notNew(t, flags, nil, false, api.ErrTid)
		notNew(t, greatest+flags, nil, true, api.ErrTid)
	}
}

func TestNewRefusesRows(t *testing.T) {
	for _, n := range numbers() {
		for _, x := range badRows() {
			notNew(t, n, x.r, false, x.e)
			notNew(t, n, x.r, true, x.e)
		}
	}
}

func TestNewOfJustAsManyValuesAsMayBe(t *testing.T) {
	for many := range api.MaxRow + 1 {
		x := fresh(t, 8, nulls(many), false)
		read(t, x, nulls(many), 8+latest)
		at(t, x, 0, nulls(many))
	}
	notNew(t, 8, nulls(api.MaxRow+1), false, api.ErrLong)
}

// A row of no values is a row: it is there, and a version that is gone is not.
func TestNoRowIsThere(t *testing.T) {
	for _, r := range []row{nil, {}} {
		x := fresh(t, number(3, 0), r, false)
		word(t, x, number(3, 0)+latest)
		at(t, x, 3, nil)
		nothingAt(t, x, 2)
		lock(t, x, true)
		install(t, x, number(4, 0), r, true, true, api.OK)
		install(t, x, number(5, 0), r, false, true, api.OK)
		at(t, x, 3, nil)
		nothingAt(t, x, 4)
		at(t, x, 5, nil)
	}
}

func TestVersionsTheNewestFirst(t *testing.T) {
	x := fresh(t, 0, nil, false)
	lock(t, x, true)
	want := []uint64{0}
	for i := 1; i < len(numbers()); i++ {
		install(t, x, numbers()[i], of(int64(i)), i%3 == 0, true, api.OK)
		want = slices.Insert(want, 0, numbers()[i])
		versions(t, x, want...)
	}
	unlock(t, x, api.OK)
	versions(t, x, want...)
}

// 11.2: Lock, Unlock and Read.

func TestLockAndUnlock(t *testing.T) {
	for _, gone := range []bool{false, true} {
		n := number(7, 3)
		w := n + latest
		if gone {
			w += absent
		}
		x := fresh(t, n, nil, gone)
		for range 5 {
			unlock(t, x, api.ErrLocked)
			unlock(t, x, api.ErrLocked)
			word(t, x, w)
			read(t, x, nil, w)
			lock(t, x, true)
			lock(t, x, false)
			lock(t, x, false)
			word(t, x, w+locked)
			notRead(t, x)
			unlock(t, x, api.OK)
		}
	}
}

// Whether it is locked is of the record: a new version leaves it so.
func TestLockedStays(t *testing.T) {
	for _, keep := range []bool{false, true} {
		x := fresh(t, 8, of(1), false)
		lock(t, x, true)
		for i := uint64(2); i < 10; i++ {
			install(t, x, 8*i, of(int64(i)), i%2 == 0, keep, api.OK)
			lock(t, x, false)
			notRead(t, x)
		}
		word(t, x, 72+locked+latest)
		unlock(t, x, api.OK)
		word(t, x, 72+latest)
		read(t, x, of(9), 72+latest)
		unlock(t, x, api.ErrLocked)
	}
}

func TestReadOfTheNewest(t *testing.T) {
	x := three(t)
	notRead(t, x)
	unlock(t, x, api.OK)
	read(t, x, of(6), number(6, 1)+latest)
	read(t, x, of(6), number(6, 1)+latest)
	lock(t, x, true)
	install(t, x, number(6, 2), kinds(), false, true, api.OK)
	notRead(t, x)
	unlock(t, x, api.OK)
	read(t, x, kinds(), number(6, 2)+latest)
	lock(t, x, true)
	install(t, x, number(7, 0), kinds(), true, true, api.OK)
	unlock(t, x, api.OK)
	read(t, x, nil, number(7, 0)+latest+absent)
	lock(t, x, true)
	install(t, x, number(8, 0), of(8), false, false, api.OK)
	unlock(t, x, api.OK)
	read(t, x, of(8), number(8, 0)+latest)
}

// 11.3: Install.

func TestInstallWhileItIsNotLocked(t *testing.T) {
	x := three(t)
	unlock(t, x, api.OK)
	before := state(x)
	for _, n := range append(numbers(), noNumbers()...) {
		for _, r := range []row{nil, of(1), nulls(33), {{Kind: 9}}} {
			install(t, x, n, r, false, true, api.ErrLocked)
			install(t, x, n, r, true, false, api.ErrLocked)
		}
	}
	unchanged(t, x, before)
}

func TestInstallRefusesNumbers(t *testing.T) {
	x := three(t)
	before := state(x)
	for _, n := range noNumbers() {
		for _, r := range []row{nil, of(1), nulls(33), {{Kind: 9}}} {
			install(t, x, n, r, false, true, api.ErrTid)
			install(t, x, n, r, true, false, api.ErrTid)
		}
	}
	install(t, x, math.MaxUint64, of(1), false, true, api.ErrTid)
	unchanged(t, x, before)
}

// What Check refuses is named ahead of a number that is not above the newest one's.
func TestInstallRefusesRows(t *testing.T) {
	x := three(t)
	before := state(x)
	for _, n := range numbers() {
		for _, b := range badRows() {
			for i := range 4 {
				install(t, x, n, b.r, i%2 == 0, i/2 == 0, b.e)
			}
		}
	}
	unchanged(t, x, before)
}

func TestInstallOfJustAsManyValuesAsMayBe(t *testing.T) {
	x := fresh(t, 0, nil, false)
	lock(t, x, true)
	for many := range api.MaxRow + 1 {
		install(t, x, 8*uint64(many+1), nulls(many), false, many%2 == 0, api.OK)
		at(t, x, 0, nulls(many))
	}
	install(t, x, 1<<20, nulls(api.MaxRow+1), false, true, api.ErrLong)
	for i, r := range goodRows() {
		install(t, x, 1<<20+8*uint64(i), r, false, true, api.OK)
		at(t, x, 0, r)
	}
}

func TestInstallOfOneThatIsNotNewer(t *testing.T) {
	for _, newest := range []uint64{0, 8, number(1, 0), number(1, 5), number(4, api.MaxSeq), greatest - 8} {
		for i := range 4 {
			gone, keep := i%2 == 0, i/2 == 0
			x := fresh(t, newest, of(1), false)
			lock(t, x, true)
			before := state(x, int(newest>>23))
			install(t, x, newest, of(2), gone, keep, api.ErrOlder)
			install(t, x, 0, of(2), gone, keep, api.ErrOlder)
			if newest > 0 {
				install(t, x, newest-8, of(2), gone, keep, api.ErrOlder)
			}
			unchanged(t, x, before, int(newest>>23))
			install(t, x, newest+8, of(2), gone, keep, api.OK)
			install(t, x, newest+8, of(3), gone, keep, api.ErrOlder)
			install(t, x, newest, of(3), gone, keep, api.ErrOlder)
		}
	}
}

// Each number is held against the newest one's, not against one that is older.
func TestInstallBetweenVersions(t *testing.T) {
	x := three(t)
	before := state(x)
	for _, n := range []uint64{0, number(2, 0), number(2, 1), number(2, 2), number(3, 7), number(4, 1), number(5, api.MaxSeq), number(6, 0), number(6, 1)} {
		install(t, x, n, of(9), false, true, api.ErrOlder)
		install(t, x, n, of(9), true, false, api.ErrOlder)
	}
	unchanged(t, x, before)
	install(t, x, number(6, 2), of(9), false, true, api.OK)
	versions(t, x, number(6, 2), number(6, 1), number(4, 1), number(2, 1))
}

func TestInstallBehindTheGreatest(t *testing.T) {
	x := fresh(t, greatest, of(1), false)
	lock(t, x, true)
	before := state(x)
	install(t, x, greatest, of(2), false, true, api.ErrOlder)
	install(t, x, greatest+8, of(2), false, true, api.ErrTid)
	install(t, x, 0, of(2), false, true, api.ErrOlder)
	unchanged(t, x, before)
	y := fresh(t, 0, of(1), false)
	lock(t, y, true)
	install(t, y, greatest, of(2), false, true, api.OK)
	versions(t, y, greatest, 0)
	word(t, y, greatest+locked+latest)
}

func TestInstallWithoutKeep(t *testing.T) {
	x := fresh(t, number(1, 0), of(1), false)
	lock(t, x, true)
	install(t, x, number(2, 0), of(2), false, false, api.OK)
	versions(t, x, number(2, 0))
	nothingAt(t, x, 0, 1)
	at(t, x, 2, of(2))
	install(t, x, number(3, 0), of(3), false, true, api.OK)
	install(t, x, number(4, 0), of(4), false, true, api.OK)
	install(t, x, number(5, 0), of(5), false, false, api.OK)
	// The one that was the newest is left away, and no other one.
	versions(t, x, number(5, 0), number(3, 0), number(2, 0))
	at(t, x, 2, of(2))
	at(t, x, 3, of(3))
	at(t, x, 4, of(3))
	at(t, x, 5, of(5))
	install(t, x, number(6, 0), of(6), true, false, api.OK)
	versions(t, x, number(6, 0), number(3, 0), number(2, 0))
	at(t, x, 5, of(3))
	nothingAt(t, x, 6)
	install(t, x, number(7, 0), of(7), false, true, api.OK)
	versions(t, x, number(7, 0), number(6, 0), number(3, 0), number(2, 0))
	nothingAt(t, x, 6)
	at(t, x, 7, of(7))
}

func TestInstallWithKeep(t *testing.T) {
	x := fresh(t, number(1, 0), of(1), false)
	lock(t, x, true)
	install(t, x, number(1, 1), of(2), false, true, api.OK)
	versions(t, x, number(1, 1), number(1, 0))
	at(t, x, 1, of(2))
	install(t, x, number(1, 2), nil, true, true, api.OK)
	versions(t, x, number(1, 2), number(1, 1), number(1, 0))
	nothingAt(t, x, 1)
	install(t, x, number(2, 0), of(4), false, true, api.OK)
	nothingAt(t, x, 0, 1)
	at(t, x, 2, of(4))
}

// 11.4: At and Prune.

func TestAt(t *testing.T) {
	x := three(t)
	for range 2 {
		nothingAt(t, x, 0, 1)
		at(t, x, 2, of(2))
		at(t, x, 3, of(2))
		at(t, x, 4, of(4))
		at(t, x, 5, of(4))
		at(t, x, 6, of(6))
		at(t, x, 7, of(6))
		at(t, x, api.MaxEpoch-1, of(6))
		at(t, x, api.MaxEpoch, of(6))
		x.Unlock() // once more while it is not locked
	}
}

func TestAtOfManyVersionsOfAnEpoch(t *testing.T) {
	x := fresh(t, number(2, 0), of(1), false)
	lock(t, x, true)
	for i, n := range []uint64{number(2, 1), number(2, api.MaxSeq), number(3, 0), number(3, api.MaxSeq-1), number(3, api.MaxSeq)} {
		install(t, x, n, of(int64(i+2)), false, true, api.OK)
	}
	nothingAt(t, x, 0, 1)
	at(t, x, 2, of(3))
	at(t, x, 3, of(6))
	at(t, x, 4, of(6))
}

func TestAtOfOneThatIsGone(t *testing.T) {
	x := three(t)
	install(t, x, number(8, 0), of(8), true, true, api.OK)
	install(t, x, number(10, 0), of(10), false, true, api.OK)
	at(t, x, 7, of(6))
	nothingAt(t, x, 8, 9)
	at(t, x, 10, of(10))
	y := fresh(t, number(2, 0), of(2), true)
	lock(t, y, true)
	install(t, y, number(4, 0), of(4), false, true, api.OK)
	nothingAt(t, y, 0, 1, 2, 3)
	at(t, y, 4, of(4))
}

func TestAtOfTheLastEpoch(t *testing.T) {
	x := fresh(t, 0, of(0), false)
	at(t, x, 0, of(0))
	at(t, x, api.MaxEpoch, of(0))
	lock(t, x, true)
	install(t, x, number(api.MaxEpoch, 0), of(1), false, true, api.OK)
	at(t, x, 0, of(0))
	at(t, x, api.MaxEpoch-1, of(0))
	at(t, x, api.MaxEpoch, of(1))
	install(t, x, greatest, of(2), false, true, api.OK)
	at(t, x, api.MaxEpoch-1, of(0))
	at(t, x, api.MaxEpoch, of(2))
	prune(t, x, api.MaxEpoch-1, 0)
	prune(t, x, api.MaxEpoch, 2)
	versions(t, x, greatest)
	nothingAt(t, x, 0, api.MaxEpoch-1)
	at(t, x, api.MaxEpoch, of(2))
}

func TestEpochsOutside(t *testing.T) {
	x := three(t)
	for range 2 {
		before := state(x)
		for _, epoch := range outside() {
			notAt(t, x, epoch)
			notPrune(t, x, epoch)
			notAt(t, x, epoch)
		}
		unchanged(t, x, before)
		x.Unlock() // once more while it is not locked
	}
	gone := fresh(t, 0, nil, true)
	for _, epoch := range outside() {
		notAt(t, gone, epoch)
		notPrune(t, gone, epoch)
	}
}

func TestPrune(t *testing.T) {
	for _, x := range []struct {
		epoch, many int
		left        []uint64
	}{
		{0, 0, []uint64{number(6, 1), number(4, 1), number(2, 1)}},
		{1, 0, []uint64{number(6, 1), number(4, 1), number(2, 1)}},
		{2, 0, []uint64{number(6, 1), number(4, 1), number(2, 1)}},
		{3, 0, []uint64{number(6, 1), number(4, 1), number(2, 1)}},
		{4, 1, []uint64{number(6, 1), number(4, 1)}},
		{5, 1, []uint64{number(6, 1), number(4, 1)}},
		{6, 2, []uint64{number(6, 1)}},
		{7, 2, []uint64{number(6, 1)}},
		{api.MaxEpoch - 1, 2, []uint64{number(6, 1)}},
		{api.MaxEpoch, 2, []uint64{number(6, 1)}},
	} {
		for _, free := range []bool{false, true} {
			r := three(t)
			if free {
				unlock(t, r, api.OK)
			}
			before := r.Word()
			prune(t, r, x.epoch, x.many)
			versions(t, r, x.left...)
			word(t, r, before)
			for _, again := range []int{0, x.epoch, x.epoch / 2} {
				prune(t, r, again, 0)
			}
			versions(t, r, x.left...)
			for epoch := x.epoch; epoch < 10; epoch++ {
				old, whether, _ := three(t).At(epoch)
				now, there, e := r.At(epoch)
				if !sameRow(old, now) || whether != there || e != api.OK {
					t.Errorf("Prune %d: At %d: %v %t, not %v %t", x.epoch, epoch, now, there, old, whether)
				}
			}
			if x.many > 0 {
				nothingAt(t, r, 2, 3)
			}
		}
	}
}

func TestPruneOfOneVersion(t *testing.T) {
	for _, gone := range []bool{false, true} {
		for _, n := range numbers() {
			x := fresh(t, n, nil, gone)
			for _, epoch := range []int{0, 1, int(n >> 23), max(0, int(n>>23)-1), api.MaxEpoch} {
				prune(t, x, epoch, 0)
				versions(t, x, n)
			}
		}
	}
}

// The newest one of the epoch stays, also if it is gone: else an older one would be told instead.
func TestPruneAtOneThatIsGone(t *testing.T) {
	x := three(t)
	install(t, x, number(8, 0), nil, true, true, api.OK)
	install(t, x, number(10, 0), of(10), false, true, api.OK)
	prune(t, x, 9, 3)
	versions(t, x, number(10, 0), number(8, 0))
	nothingAt(t, x, 7, 8, 9)
	at(t, x, 10, of(10))
	prune(t, x, 10, 1)
	versions(t, x, number(10, 0))
}

func TestPruneWithManyVersionsOfAnEpoch(t *testing.T) {
	x := fresh(t, number(2, 0), of(0), false)
	lock(t, x, true)
	for i := uint64(1); i < 20; i++ {
		install(t, x, number(2+i/10, i), of(int64(i)), false, true, api.OK)
	}
	prune(t, x, 1, 0)
	prune(t, x, 2, 9)
	at(t, x, 2, of(9))
	prune(t, x, 2, 0)
	prune(t, x, 3, 10)
	versions(t, x, number(3, 19))
	at(t, x, 3, of(19))
	nothingAt(t, x, 2)
}

func TestInstallBehindPruning(t *testing.T) {
	x := three(t)
	prune(t, x, 4, 1)
	install(t, x, number(7, 0), of(7), false, true, api.OK)
	versions(t, x, number(7, 0), number(6, 1), number(4, 1))
	install(t, x, number(7, 1), of(8), false, false, api.OK)
	versions(t, x, number(7, 1), number(6, 1), number(4, 1))
	prune(t, x, 7, 2)
	install(t, x, number(7, 2), of(9), false, false, api.OK)
	versions(t, x, number(7, 2))
	install(t, x, number(7, 2), of(9), false, true, api.ErrOlder)
	unlock(t, x, api.OK)
	read(t, x, of(9), number(7, 2)+latest)
}

func TestManyVersions(t *testing.T) {
	const many = 200000
	x := fresh(t, 0, of(0), false)
	lock(t, x, true)
	for i := 1; i < many; i++ {
		if e := x.Install(number(uint64(i), 0), of(int64(i)), false, true); e != api.OK {
			t.Fatal(i, e)
		}
	}
	if list := x.Versions(); len(list) != many || list[0] != number(many-1, 0) || list[many-1] != 0 {
		t.Error(len(list))
	}
	at(t, x, 0, of(0))
	at(t, x, many/2, of(many/2))
	prune(t, x, many/2, many/2)
	nothingAt(t, x, many/2-1)
	at(t, x, many/2, of(many/2))
	prune(t, x, api.MaxEpoch, many/2-1)
	versions(t, x, number(many-1, 0))
}

// Records do not touch one another.
func TestRecordsAreApart(t *testing.T) {
	x, y := three(t), three(t)
	before := state(x)
	unlock(t, y, api.OK)
	unchanged(t, x, before)
	lock(t, y, true)
	install(t, y, number(7, 0), of(7), true, false, api.OK)
	prune(t, y, 7, 2)
	unchanged(t, x, before)
	install(t, x, number(8, 0), of(8), false, true, api.OK)
	versions(t, y, number(7, 0))
	word(t, y, number(7, 0)+latest+absent+locked)
	nothingAt(t, y, 8)
}

// R4: what is handed in stays and is not kept; answers are new memory.

func TestHandedInStays(t *testing.T) {
	behind := api.Value{Kind: 77, N: 7, C: complex(7, 7), S: "behind"}
	full := append(kinds(), behind, behind)
	before := slices.Clone(full)
	r := full[:len(kinds())]
	x := fresh(t, 8, r, false)
	lock(t, x, true)
	install(t, x, 16, r, false, true, api.OK)
	install(t, x, 24, r, true, true, api.OK)
	install(t, x, 32, full, false, true, api.ErrValue)
	install(t, x, 24, r, false, true, api.ErrOlder)
	if !sameRow(full, before) {
		t.Errorf("%v, not %v", full, before)
	}
}

func spoil(r row) {
	full := r[:cap(r)]
	for i := range full {
		full[i] = api.Value{Kind: 99, N: -99, S: "spoilt"}
	}
}

func TestRowsAreNotKept(t *testing.T) {
	r := append(make(row, 0, 20), kinds()...)
	x := fresh(t, number(1, 0), r, false)
	spoil(r)
	read(t, x, kinds(), number(1, 0)+latest)
	at(t, x, 1, kinds())
	lock(t, x, true)
	r = append(make(row, 0, 20), kinds()...)
	install(t, x, number(2, 0), r, false, true, api.OK)
	spoil(r)
	at(t, x, 1, kinds())
	at(t, x, 2, kinds())
	unlock(t, x, api.OK)
	read(t, x, kinds(), number(2, 0)+latest)
}

func TestAnswersAreNew(t *testing.T) {
	for many := range 12 {
		want := slices.Repeat(of(5), many)
		x := fresh(t, number(1, 0), want, false)
		lock(t, x, true)
		install(t, x, number(2, 0), want, false, true, api.OK)
		unlock(t, x, api.OK)
		first, _, _ := x.Read()
		second, _, _ := x.Read()
		older, _, _ := x.At(1)
		newer, _, _ := x.At(2)
		spoil(first)
		spoil(older)
		if !sameRow(second, want) || !sameRow(newer, want) {
			t.Errorf("%d values: two answers share memory", many)
		}
		read(t, x, want, number(2, 0)+latest)
		at(t, x, 1, want)
		at(t, x, 2, want)
		spoil(newer)
		read(t, x, want, number(2, 0)+latest)
		at(t, x, 2, want)
	}
}

func TestListsAreNew(t *testing.T) {
	x := fresh(t, 8, nil, false)
	lock(t, x, true)
	want := []uint64{8}
	for i := uint64(2); i < 20; i++ {
		first, second := x.Versions(), x.Versions()
		full := first[:cap(first)]
		for j := range full {
			full[j] = 99
		}
		if !slices.Equal(second, want) {
			t.Errorf("two lists of %d share memory", len(second))
		}
		versions(t, x, want...)
		install(t, x, 8*i, nil, false, true, api.OK)
		want = slices.Insert(want, 0, 8*i)
		versions(t, x, want...)
	}
}

func shared(a, b string) bool {
	if a == "" || b == "" {
		return false
	}
	first, second := uintptr(unsafe.Pointer(unsafe.StringData(a))), uintptr(unsafe.Pointer(unsafe.StringData(b)))
	return first < second+uintptr(len(b)) && second < first+uintptr(len(a))
}

func TestTextsAreNew(t *testing.T) {
	s := strings.Repeat("text", 10)
	x := fresh(t, number(1, 0), row{text(s)}, false)
	a, _, _ := x.Read()
	b, _, _ := x.Read()
	c, _, _ := x.At(1)
	d, _, _ := x.At(1)
	list := []string{s, a[0].S, b[0].S, c[0].S, d[0].S}
	for i, one := range list {
		for j, other := range list {
			if one != s || i != j && shared(one, other) {
				t.Errorf("the texts %d and %d: %q and %q share memory", i, j, one, other)
			}
		}
	}
}

// R7: the same call tells the same, and one that only tells changes nothing.
func TestTellingTwice(t *testing.T) {
	x := three(t)
	for range 2 {
		first := state(x)
		for range 5 {
			unchanged(t, x, first)
		}
		x.Unlock() // once more while it is not locked
	}
}

// The chapter's example.
func TestExample(t *testing.T) {
	x := fresh(t, number(1, 0), of(5), false)
	read(t, x, of(5), number(1, 0)+latest)
	lock(t, x, true)
	lock(t, x, false)
	install(t, x, number(3, 0), of(6), false, true, api.OK)
	at(t, x, 2, of(5))
	at(t, x, 3, of(6))
	nothingAt(t, x, 0)
	versions(t, x, number(3, 0), number(1, 0))
	prune(t, x, 2, 0)
	prune(t, x, 3, 1)
	nothingAt(t, x, 2)
	notRead(t, x)
	unlock(t, x, api.OK)
	read(t, x, of(6), number(3, 0)+latest)
}
