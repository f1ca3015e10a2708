package tid_test

import (
	"math"
	"slices"
	"testing"

	"hopper/api"
	"hopper/tid"
)

const (
	lastEpoch = 1 << 31
	lastSeq   = 1<<20 - 1
	greatest  = math.MaxUint64
	// firstBad is the least word whose epoch is above the last one.
	firstBad uint64 = (lastEpoch + 1) << 23
)

// The flags of a word.
const (
	locked uint64 = 1
	absent uint64 = 2
	latest uint64 = 4
	all    uint64 = 7
)

// parts are what a word is put together of.
type parts struct {
	epoch, seq             int
	locked, absent, latest bool
}

// word is the word of an epoch, a sequence and flags, by places that are counted out.
func word(epoch, seq int, flags uint64) uint64 {
	return uint64(epoch)<<23 + uint64(seq)<<3 + flags
}

func partsOf(epoch, seq int, flags uint64) parts {
	return parts{epoch, seq, flags&locked != 0, flags&absent != 0, flags&latest != 0}
}

// outside has numbers that neither an epoch nor a sequence may be.
func outside() []int {
	return []int{-1, -2, -8, -1 << 20, -1 << 31, -1 << 41, -1 << 43, -1 << 61, math.MinInt, math.MinInt + 1,
		lastEpoch + 1, lastEpoch + 2, 1 << 32, 1<<32 + 5, 1 << 40, 1<<41 - 1, 1 << 41, 1<<41 + 1, 1 << 44, 1 << 61, math.MaxInt - 1, math.MaxInt}
}

func epochs() []int {
	return []int{0, 1, 2, 3, 7, 8, 255, 256, 1 << 20, 1<<23 - 1, 1 << 23, 1<<30 + 12345, 1<<31 - 2, 1<<31 - 1, lastEpoch}
}

func seqs() []int {
	return []int{0, 1, 2, 3, 7, 8, 255, 256, 1<<19 - 1, 1 << 19, 1<<19 + 1, lastSeq - 1, lastSeq}
}

func packed(t *testing.T, p parts, want uint64, wantE api.Errno) {
	t.Helper()
	if w, e := tid.Pack(p.epoch, p.seq, p.locked, p.absent, p.latest); w != want || e != wantE {
		t.Errorf("Pack of %v: %d %d, not %d %d", p, w, e, want, wantE)
	}
}

func unpacked(t *testing.T, w uint64, want parts, wantE api.Errno) {
	t.Helper()
	var p parts
	var e api.Errno
	p.epoch, p.seq, p.locked, p.absent, p.latest, e = tid.Unpack(w)
	if p != want || e != wantE {
		t.Errorf("Unpack of %#x: %v %d, not %v %d", w, p, e, want, wantE)
	}
}

func number(t *testing.T, w, want uint64) {
	t.Helper()
	if n := tid.Number(w); n != want {
		t.Errorf("Number of %#x: %#x, not %#x", w, n, want)
	}
}

func next(t *testing.T, epoch int, seen []uint64, want uint64, wantE api.Errno) {
	t.Helper()
	if w, e := tid.Next(epoch, seen); w != want || e != wantE {
		t.Errorf("Next of %d and %d words, %#x ..: %#x %d, not %#x %d", epoch, len(seen), seen[:min(len(seen), 6)], w, e, want, wantE)
	}
}

// 9.1: words put together.

func TestPackOfEdges(t *testing.T) {
	for _, epoch := range epochs() {
		for _, seq := range seqs() {
			for flags := range all + 1 {
				packed(t, partsOf(epoch, seq, flags), word(epoch, seq, flags), api.OK)
			}
		}
	}
}

func TestPackWrittenOut(t *testing.T) {
	packed(t, parts{}, 0, api.OK)
	packed(t, parts{locked: true}, 1, api.OK)
	packed(t, parts{absent: true}, 2, api.OK)
	packed(t, parts{latest: true}, 4, api.OK)
	packed(t, parts{locked: true, absent: true, latest: true}, 7, api.OK)
	packed(t, parts{seq: 1}, 8, api.OK)
	packed(t, parts{seq: lastSeq}, 0x7ffff8, api.OK)
	packed(t, parts{epoch: 1}, 0x800000, api.OK)
	packed(t, parts{epoch: lastEpoch}, 0x40000000000000, api.OK)
	packed(t, parts{lastEpoch, lastSeq, true, true, true}, 0x400000007fffff, api.OK)
}

func TestPackOfAnEpochOutside(t *testing.T) {
	for _, epoch := range outside() {
		for _, seq := range seqs() {
			for flags := range all + 1 {
				packed(t, partsOf(epoch, seq, flags), 0, api.ErrRange)
			}
		}
	}
}

func TestPackOfASequenceOutside(t *testing.T) {
	for _, seq := range append(outside(), lastSeq+1, lastSeq+2, 1<<21, 1<<31, lastEpoch) {
		for _, epoch := range epochs() {
			for flags := range all + 1 {
				packed(t, partsOf(epoch, seq, flags), 0, api.ErrRange)
			}
		}
	}
}

func TestPackOfBothOutside(t *testing.T) {
	for _, epoch := range outside() {
		for _, seq := range outside() {
			packed(t, partsOf(epoch, seq, 0), 0, api.ErrRange)
			packed(t, partsOf(epoch, seq, all), 0, api.ErrRange)
		}
	}
}

// 9.1: words taken apart.

func TestUnpackOfEdges(t *testing.T) {
	for _, epoch := range epochs() {
		for _, seq := range seqs() {
			for flags := range all + 1 {
				unpacked(t, word(epoch, seq, flags), partsOf(epoch, seq, flags), api.OK)
			}
		}
	}
}

func TestUnpackWrittenOut(t *testing.T) {
	unpacked(t, 0, parts{}, api.OK)
	unpacked(t, 1, parts{locked: true}, api.OK)
	unpacked(t, 2, parts{absent: true}, api.OK)
	unpacked(t, 4, parts{latest: true}, api.OK)
	unpacked(t, 8, parts{seq: 1}, api.OK)
	unpacked(t, 0x7fffff, parts{0, lastSeq, true, true, true}, api.OK)
	unpacked(t, 0x800000, parts{epoch: 1}, api.OK)
	unpacked(t, 0x400000007fffff, parts{lastEpoch, lastSeq, true, true, true}, api.OK)
}

func TestUnpackAtTheLastEpoch(t *testing.T) {
	unpacked(t, firstBad-1, parts{lastEpoch, lastSeq, true, true, true}, api.OK)
	unpacked(t, firstBad, parts{}, api.ErrTid)
}

// badWords has words that may not be.
func badWords() []uint64 {
	return []uint64{firstBad, firstBad + 1, firstBad | all, word(lastEpoch+1, lastSeq, 0), word(lastEpoch+2, 0, 0), word(lastEpoch+1, 5, latest),
		1 << 55, 1 << 62, 1 << 63, 1<<63 | 1<<23, 1<<63 | 8, math.MaxInt64, greatest - 1, greatest &^ all, greatest}
}

func TestUnpackOfWordsThatMayNotBe(t *testing.T) {
	for _, w := range badWords() {
		unpacked(t, w, parts{}, api.ErrTid)
	}
}

// 9.1: a word's number.

func TestNumberOfEdges(t *testing.T) {
	for _, epoch := range epochs() {
		for _, seq := range seqs() {
			for flags := range all + 1 {
				number(t, word(epoch, seq, flags), word(epoch, seq, 0))
			}
		}
	}
}

func TestNumberOfAnyWord(t *testing.T) {
	for w := range uint64(8) {
		number(t, w, 0)
	}
	number(t, 8, 8)
	number(t, 15, 8)
	for _, w := range badWords() {
		number(t, w, w>>3<<3)
	}
	number(t, greatest, 0xfffffffffffffff8)
}

// 9.2: the next word.

func TestNextOfNone(t *testing.T) {
	for _, epoch := range epochs() {
		next(t, epoch, nil, word(epoch, 0, 0), api.OK)
		next(t, epoch, []uint64{}, word(epoch, 0, 0), api.OK)
	}
}

func TestNextOfAnEpochOutside(t *testing.T) {
	for _, epoch := range outside() {
		for _, seen := range [][]uint64{nil, {}, {0}, {word(1, 1, 0)}, {word(lastEpoch, lastSeq, 0)}, {greatest}, {0, firstBad}} {
			next(t, epoch, seen, 0, api.ErrRange)
		}
	}
}

func TestNextOfOneWord(t *testing.T) {
	for _, epoch := range epochs() {
		for _, own := range epochs() {
			for _, seq := range seqs() {
				w := word(own, seq, 0)
				switch {
				case own > epoch || own == epoch && seq == lastSeq:
					next(t, epoch, []uint64{w}, 0, api.ErrRange)
				case own == epoch:
					next(t, epoch, []uint64{w}, word(epoch, seq+1, 0), api.OK)
				default:
					next(t, epoch, []uint64{w}, word(epoch, 0, 0), api.OK)
				}
			}
		}
	}
}

func TestNextOfTheLastSequences(t *testing.T) {
	for _, epoch := range []int{0, 1, 5, lastEpoch} {
		next(t, epoch, []uint64{word(epoch, lastSeq-1, 0)}, word(epoch, lastSeq, 0), api.OK)
		next(t, epoch, []uint64{word(epoch, lastSeq-1, all)}, word(epoch, lastSeq, 0), api.OK)
		next(t, epoch, []uint64{word(epoch, lastSeq, 0)}, 0, api.ErrRange)
		next(t, epoch, []uint64{word(epoch, lastSeq, all)}, 0, api.ErrRange)
		next(t, epoch, []uint64{word(epoch, 3, 0), word(epoch, lastSeq, 0), word(epoch, 4, 0)}, 0, api.ErrRange)
		if epoch > 0 {
			next(t, epoch, []uint64{word(epoch-1, lastSeq, 0)}, word(epoch, 0, 0), api.OK)
			next(t, epoch, []uint64{word(epoch-1, lastSeq, all)}, word(epoch, 0, 0), api.OK)
			next(t, epoch, []uint64{word(epoch-1, lastSeq, 0), word(epoch, 0, 0)}, word(epoch, 1, 0), api.OK)
		}
	}
}

// 9.2: whatever flags the words have, what comes next is the same, and has none.
func TestNextOfFlags(t *testing.T) {
	for flags := range all + 1 {
		next(t, 5, []uint64{word(5, 9, flags)}, word(5, 10, 0), api.OK)
		next(t, 5, []uint64{word(4, 9, flags)}, word(5, 0, 0), api.OK)
		next(t, 5, []uint64{word(5, 9, flags), word(5, 9, all-flags), word(5, 8, all)}, word(5, 10, 0), api.OK)
		next(t, 5, []uint64{word(6, 0, flags)}, 0, api.ErrRange)
		next(t, 0, []uint64{flags}, word(0, 1, 0), api.OK)
	}
}

// orders answers a list in all of its orders.
func orders(list []uint64) [][]uint64 {
	if len(list) == 0 {
		return [][]uint64{nil}
	}
	var out [][]uint64
	for i, w := range list {
		rest := slices.Delete(slices.Clone(list), i, i+1)
		for _, order := range orders(rest) {
			out = append(out, append([]uint64{w}, order...))
		}
	}
	return out
}

func TestNextOfManyInAnyOrder(t *testing.T) {
	for _, seen := range orders([]uint64{word(5, 2, latest), word(5, 7, 0), word(5, 7, locked), word(4, 100, 0), word(0, 0, all)}) {
		next(t, 5, seen, word(5, 8, 0), api.OK)
		next(t, 6, seen, word(6, 0, 0), api.OK)
		next(t, lastEpoch, seen, word(lastEpoch, 0, 0), api.OK)
		next(t, 4, seen, 0, api.ErrRange)
		next(t, 0, seen, 0, api.ErrRange)
	}
	// Gaps below the highest sequence stay as they are.
	for _, seen := range orders([]uint64{word(1, 0, 0), word(1, 1, 0), word(1, 50, 0), word(0, lastSeq, 0)}) {
		next(t, 1, seen, word(1, 51, 0), api.OK)
	}
	for _, seen := range orders([]uint64{word(3, 1, 0), word(3, 9, 0), word(4, 0, 0), word(2, lastSeq, 0)}) {
		next(t, 3, seen, 0, api.ErrRange)
		next(t, 4, seen, word(4, 1, 0), api.OK)
	}
}

func TestNextOfWordsThatMayNotBe(t *testing.T) {
	for _, bad := range badWords() {
		for _, epoch := range []int{0, 1, lastEpoch} {
			next(t, epoch, []uint64{bad}, 0, api.ErrTid)
			next(t, epoch, []uint64{bad, 0}, 0, api.ErrTid)
			next(t, epoch, []uint64{0, bad}, 0, api.ErrTid)
			next(t, epoch, []uint64{0, bad, 8}, 0, api.ErrTid)
			next(t, epoch, []uint64{bad, bad}, 0, api.ErrTid)
		}
	}
}

func TestNextOfVeryMany(t *testing.T) {
	seen := make([]uint64, 1<<20)
	for i := range seen {
		seen[i] = word(3+i%2, i>>1, uint64(i)&all)
	}
	next(t, 4, seen, word(4, 1<<19, 0), api.OK)
	next(t, 5, seen, word(5, 0, 0), api.OK)
	next(t, 3, seen, 0, api.ErrRange)
	seen[len(seen)-1] = word(4, lastSeq, 0)
	next(t, 4, seen, 0, api.ErrRange)
	seen[len(seen)-1] = firstBad
	next(t, 4, seen, 0, api.ErrTid)
	next(t, 3, seen, 0, api.ErrTid)
}

// 9.2: from one to the next all sequences of an epoch come, and none behind the last.
func TestNextGoesThroughAllSequences(t *testing.T) {
	for _, epoch := range []int{0, 7, lastEpoch} {
		var seen []uint64
		for seq := range 1 << 20 {
			w, e := tid.Next(epoch, seen)
			if w != word(epoch, seq, 0) || e != api.OK {
				t.Fatalf("the word %d of the epoch %d: %#x %d", seq, epoch, w, e)
			}
			seen = []uint64{w}
		}
		next(t, epoch, seen, 0, api.ErrRange)
	}
}

// R1: the epoch first, then the words that may not be, wherever they stand, then those that are too great.
func TestOrderOfErrors(t *testing.T) {
	const epoch = 5
	for _, bad := range badWords() {
		next(t, -1, []uint64{bad}, 0, api.ErrRange)
		next(t, lastEpoch+1, []uint64{bad}, 0, api.ErrRange)
		for _, great := range []uint64{word(epoch+1, 0, 0), word(lastEpoch, lastSeq, all), word(epoch, lastSeq, 0), word(epoch, lastSeq, all)} {
			next(t, epoch, []uint64{great}, 0, api.ErrRange)
			for _, seen := range orders([]uint64{bad, great, word(epoch, 3, 0)}) {
				next(t, epoch, seen, 0, api.ErrTid)
				next(t, -1, seen, 0, api.ErrRange)
			}
		}
	}
}

// R4: what is handed in stays, and what lies behind its end is neither read nor written.
func TestHandedInStays(t *testing.T) {
	room := []uint64{word(5, 2, all), word(5, 1, 0), word(4, 3, latest), word(9, 0, 0), greatest, word(5, lastSeq, 0)}
	held := slices.Clone(room)
	for range 3 {
		next(t, 5, room[:3], word(5, 3, 0), api.OK)
		next(t, 5, room[:0], word(5, 0, 0), api.OK)
		next(t, 4, room[:3], 0, api.ErrRange)
		next(t, 5, room[:4], 0, api.ErrRange)
		next(t, 5, room, 0, api.ErrTid)
		next(t, 5, room[1:3], word(5, 2, 0), api.OK)
		if !slices.Equal(room, held) {
			t.Fatalf("what was handed in was changed: %#x", room)
		}
	}
}

// R7: what was told ahead has no weight.
func TestToldAgain(t *testing.T) {
	seen := []uint64{word(2, 6, 0)}
	for range 3 {
		next(t, 2, seen, word(2, 7, 0), api.OK)
		next(t, 2, nil, word(2, 0, 0), api.OK)
		next(t, 2, []uint64{greatest}, 0, api.ErrTid)
		packed(t, parts{2, 7, false, true, false}, word(2, 7, absent), api.OK)
		packed(t, parts{-1, 7, false, true, false}, 0, api.ErrRange)
		unpacked(t, word(2, 7, absent), parts{2, 7, false, true, false}, api.OK)
		unpacked(t, greatest, parts{}, api.ErrTid)
		number(t, word(2, 7, absent), word(2, 7, 0))
	}
}

// The limits of package api are those that the words above are counted out by.
func TestLimits(t *testing.T) {
	packed(t, parts{epoch: api.MaxEpoch, seq: api.MaxSeq}, word(lastEpoch, lastSeq, 0), api.OK)
	packed(t, parts{epoch: api.MaxEpoch + 1}, 0, api.ErrRange)
	packed(t, parts{seq: api.MaxSeq + 1}, 0, api.ErrRange)
}

// The chapter's examples, and the document's.
func TestExamples(t *testing.T) {
	const w = 8388628
	packed(t, parts{epoch: 1, seq: 2, latest: true}, w, api.OK)
	packed(t, parts{epoch: 1, seq: 2, latest: true}, 1<<23+16+4, api.OK)
	next(t, 1, []uint64{w}, 1<<23+24, api.OK)
	next(t, 2, []uint64{w}, 1<<24, api.OK)
	next(t, 0, []uint64{w}, 0, api.ErrRange)
	next(t, 1, []uint64{1<<23 + 16}, 1<<23+24, api.OK)
}
