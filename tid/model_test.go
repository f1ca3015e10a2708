package tid_test

import (
	"cmp"
	"fmt"
	"math"
	"math/rand"
	"slices"
	"strconv"
	"strings"
	"testing"

	"hopper/api"
	"hopper/tid"
)

// The model is the chapter's words, written out as plainly as may be: a word is a text of 64 letters 0 and 1, its highest bit first.

const (
	seqFrom  = 64 - 3 - 20 // where the letters of the sequence begin
	flagFrom = 64 - 3
)

func letters(w uint64) string { return fmt.Sprintf("%064b", w) }

func valueOf(bits string) int64 {
	n, _ := strconv.ParseUint(bits, 2, 63)
	return int64(n)
}

func bit(b bool) string { return map[bool]string{false: "0", true: "1"}[b] }

func modelPack(p parts) (uint64, api.Errno) {
	if p.epoch < 0 || p.epoch > 2147483648 || p.seq < 0 || p.seq > 1048575 {
		return 0, api.ErrRange
	}
	text := fmt.Sprintf("%041b%020b", p.epoch, p.seq) + bit(p.latest) + bit(p.absent) + bit(p.locked)
	w, _ := strconv.ParseUint(text, 2, 64)
	return w, api.OK
}

func modelUnpack(w uint64) (parts, api.Errno) {
	text := letters(w)
	epoch := valueOf(text[:seqFrom])
	if epoch > 2147483648 {
		return parts{}, api.ErrTid
	}
	seq := valueOf(text[seqFrom:flagFrom])
	return parts{int(epoch), int(seq), text[63] == '1', text[62] == '1', text[61] == '1'}, api.OK
}

func modelNumber(w uint64) uint64 {
	n, _ := strconv.ParseUint(letters(w)[:flagFrom]+"000", 2, 64)
	return n
}

func modelNext(epoch int, seen []uint64) (uint64, api.Errno) {
	if epoch < 0 || epoch > 2147483648 {
		return 0, api.ErrRange
	}
	var list []parts
	for _, w := range seen {
		p, e := modelUnpack(w)
		if e != api.OK {
			return 0, e
		}
		list = append(list, p)
	}
	used := []int{-1}
	for _, p := range list {
		if p.epoch > epoch || p.epoch == epoch && p.seq == 1048575 {
			return 0, api.ErrRange
		}
		if p.epoch == epoch {
			used = append(used, p.seq)
		}
	}
	return modelPack(parts{epoch: epoch, seq: slices.Max(used) + 1})
}

// Drawn inputs.

func drawNumber(r *rand.Rand, edges []int) int {
	switch r.Intn(10) {
	case 0:
		return int(r.Uint64()) >> r.Intn(64)
	case 1:
		return r.Intn(5) - 1
	}
	return edges[r.Intn(len(edges))] + r.Intn(3) - 1
}

func drawParts(r *rand.Rand) parts {
	return parts{drawNumber(r, epochs()), drawNumber(r, seqs()), r.Intn(2) == 0, r.Intn(2) == 0, r.Intn(2) == 0}
}

// drawWord answers any word: those that may not be, too.
func drawWord(r *rand.Rand) uint64 {
	switch r.Intn(4) {
	case 0:
		return r.Uint64() >> r.Intn(64)
	case 1:
		list := badWords()
		return list[r.Intn(len(list))] + uint64(r.Intn(3)) - 1
	}
	return goodWord(r)
}

func goodWord(r *rand.Rand) uint64 {
	epochs, seqs := epochs(), seqs()
	return word(epochs[r.Intn(len(epochs))], seqs[r.Intn(len(seqs))], uint64(r.Intn(8)))
}

// drawSeen answers words of the epoch or below it for the most part, with one among some of them that is not so.
func drawSeen(r *rand.Rand, epoch int) []uint64 {
	low := max(0, min(epoch, lastEpoch))
	out := make([]uint64, r.Intn(8))
	for i := range out {
		out[i] = word(max(0, low-r.Intn(2)*r.Intn(3)), r.Intn(lastSeq), uint64(r.Intn(8)))
		if r.Intn(3) == 0 {
			out[i] = word(low, r.Intn(6), uint64(r.Intn(8)))
		}
	}
	if len(out) > 0 && r.Intn(3) == 0 {
		odd := []uint64{word(low, lastSeq, 0), word(low, lastSeq-1, all), word(min(low+1, lastEpoch), 0, 0), word(max(0, low-1), lastSeq, all), drawWord(r)}
		for range r.Intn(3) {
			out[r.Intn(len(out))] = odd[r.Intn(len(odd))]
		}
	}
	return out
}

// 9.1 and 9.2, held against the model.

func TestWordsAsTheModel(t *testing.T) {
	told := map[api.Errno]int{}
	for seed := range int64(50000) {
		r := rand.New(rand.NewSource(seed))
		p := drawParts(r)
		w, e := modelPack(p)
		packed(t, p, w, e)
		told[e]++
		w = drawWord(r)
		p, e = modelUnpack(w)
		unpacked(t, w, p, e)
		told[e]++
		number(t, w, modelNumber(w))
		if t.Failed() {
			t.Fatal("seed", seed)
		}
	}
	enough(t, told, 5000, api.OK, api.ErrRange, api.ErrTid)
}

func TestNextAsTheModel(t *testing.T) {
	told := map[api.Errno]int{}
	for seed := range int64(50000) {
		r := rand.New(rand.NewSource(seed))
		epoch := drawNumber(r, epochs())
		seen := drawSeen(r, epoch)
		w, e := modelNext(epoch, seen)
		next(t, epoch, seen, w, e)
		told[e]++
		if t.Failed() {
			t.Fatal("seed", seed)
		}
	}
	enough(t, told, 500, api.OK, api.ErrRange, api.ErrTid)
}

func enough(t *testing.T, told map[api.Errno]int, least int, errors ...api.Errno) {
	t.Helper()
	for _, e := range errors {
		if told[e] < least {
			t.Errorf("%d was told %d times: draw others", e, told[e])
		}
	}
}

// 9.3: parts that are packed are unpacked, and words that may be are packed of their parts.

func TestPackedIsUnpacked(t *testing.T) {
	good := 0
	for seed := range int64(50000) {
		p := drawParts(rand.New(rand.NewSource(seed)))
		if w, e := tid.Pack(p.epoch, p.seq, p.locked, p.absent, p.latest); e == api.OK {
			unpacked(t, w, p, api.OK)
			good++
		}
	}
	if good < 10000 {
		t.Errorf("%d of the drawn parts are a word's", good)
	}
}

func TestUnpackedIsPacked(t *testing.T) {
	good := 0
	for seed := range int64(50000) {
		w := drawWord(rand.New(rand.NewSource(seed)))
		var p parts
		var e api.Errno
		p.epoch, p.seq, p.locked, p.absent, p.latest, e = tid.Unpack(w)
		if e == api.OK {
			packed(t, p, w, api.OK)
			good++
		}
	}
	if good < 10000 {
		t.Errorf("%d of the drawn words may be", good)
	}
}

// 9.3: numbers stand in order as epochs, then as sequences, whatever the flags.
func TestOrderOfNumbers(t *testing.T) {
	hold := func(p, q parts) {
		t.Helper()
		v, _ := tid.Pack(p.epoch, p.seq, p.locked, p.absent, p.latest)
		w, _ := tid.Pack(q.epoch, q.seq, q.locked, q.absent, q.latest)
		want := cmp.Or(cmp.Compare(p.epoch, q.epoch), cmp.Compare(p.seq, q.seq))
		if got := cmp.Compare(tid.Number(v), tid.Number(w)); got != want {
			t.Fatalf("numbers of %v and %v: %d, not %d", p, q, got, want)
		}
	}
	var list []parts
	for _, epoch := range epochs() {
		for _, seq := range seqs() {
			list = append(list, partsOf(epoch, seq, uint64(len(list))&all))
		}
	}
	for _, p := range list {
		for _, q := range list {
			hold(p, q)
		}
		for flags := range all + 1 {
			hold(p, partsOf(p.epoch, p.seq, flags))
		}
	}
	for seed := range int64(20000) {
		r := rand.New(rand.NewSource(seed))
		near := func() parts { return partsOf(r.Intn(3)+r.Intn(lastEpoch-2), r.Intn(1<<20), r.Uint64()&all) }
		p, q := near(), near()
		hold(p, q)
		q.epoch = p.epoch
		hold(p, q)
	}
}

// 9.3: what Next tells is of a greater number than all of seen; and of the least that is of the epoch.
func TestNextIsAboveAll(t *testing.T) {
	good := 0
	for seed := range int64(50000) {
		r := rand.New(rand.NewSource(seed))
		epoch := epochs()[r.Intn(len(epochs()))]
		seen := drawSeen(r, epoch)
		w, e := tid.Next(epoch, seen)
		if e != api.OK {
			continue
		}
		good++
		own, seq, _, _, _, e := tid.Unpack(w)
		if own != epoch || w != tid.Number(w) || e != api.OK {
			t.Fatalf("seed %d: %#x, of the epoch %d, not %d", seed, w, own, epoch)
		}
		above := func(n uint64) bool {
			return !slices.ContainsFunc(seen, func(s uint64) bool { return tid.Number(s) >= n })
		}
		if !above(w) || seq > 0 && above(w-8) {
			t.Fatalf("seed %d: %#x behind %#x", seed, w, seen)
		}
	}
	if good < 20000 {
		t.Errorf("%d of the drawn words have a next one", good)
	}
}

// P1: every call ends and none panics, at whatever is given.
func TestNeverPanics(t *testing.T) {
	numbers := append(outside(), append(epochs(), seqs()...)...)
	for _, epoch := range numbers {
		for _, seq := range numbers {
			tid.Pack(epoch, seq, true, false, true)
		}
		tid.Next(epoch, nil)
		tid.Next(epoch, badWords())
	}
	for i := range 64 {
		for _, w := range []uint64{1 << i, 1<<i - 1, math.MaxUint64 << i, math.MaxUint64 - 1<<i} {
			p, e := modelUnpack(w)
			unpacked(t, w, p, e)
			number(t, w, modelNumber(w))
			tid.Next(0, []uint64{w})
			tid.Next(lastEpoch, []uint64{w, 0, w})
		}
	}
}

// The model itself: its letters are where the chapter says.
func TestModel(t *testing.T) {
	if got := strings.TrimLeft(letters(8388628), "0"); got != "1"+"00000000000000000010"+"100" {
		t.Error(got)
	}
}
