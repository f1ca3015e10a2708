package epoch_test

import (
	"math"
	"slices"
	"testing"

	"hopper/api"
	"hopper/epoch"
)

func clock(t *testing.T, workers, every, first int) *epoch.Clock {
	t.Helper()
	c, e := epoch.New(workers, every, first)
	if e != api.OK || c == nil {
		t.Fatalf("New of %d, %d, %d: %d", workers, every, first, e)
	}
	return c
}

func notNew(t *testing.T, workers, every, first int) {
	t.Helper()
	if c, e := epoch.New(workers, every, first); c != nil || e != api.ErrRange {
		t.Errorf("New of %d, %d, %d: a clock is %t, %d", workers, every, first, c != nil, e)
	}
}

func at(t *testing.T, c *epoch.Clock, global, snapshot int) {
	t.Helper()
	if g, s := c.Global(), c.Snapshot(); g != global || s != snapshot {
		t.Errorf("global %d and snapshot %d, not %d and %d", g, s, global, snapshot)
	}
}

func enter(t *testing.T, c *epoch.Clock, w, want int) {
	t.Helper()
	if n, e := c.Enter(w); n != want || e != api.OK {
		t.Errorf("Enter of %d: %d %d, not %d", w, n, e, want)
	}
}

func notEnter(t *testing.T, c *epoch.Clock, w int) {
	t.Helper()
	if n, e := c.Enter(w); n != 0 || e != api.ErrWorker {
		t.Errorf("Enter of %d: %d %d, not refused", w, n, e)
	}
}

func leave(t *testing.T, c *epoch.Clock, w int, want api.Errno) {
	t.Helper()
	if e := c.Leave(w); e != want {
		t.Errorf("Leave of %d: %d, not %d", w, e, want)
	}
}

func advance(t *testing.T, c *epoch.Clock, want bool, wantE api.Errno) {
	t.Helper()
	if x, e := c.Advance(); x != want || e != wantE {
		t.Errorf("Advance at %d: %t %d, not %t %d", c.Global(), x, e, want, wantE)
	}
}

// rise advances so often.
func rise(t *testing.T, c *epoch.Clock, often int) {
	t.Helper()
	for range often {
		advance(t, c, true, api.OK)
	}
}

func retire(t *testing.T, c *epoch.Clock, things ...int) {
	t.Helper()
	for _, thing := range things {
		if e := c.Retire(thing); e != api.OK {
			t.Errorf("Retire of %d: %d", thing, e)
		}
	}
}

func notRetire(t *testing.T, c *epoch.Clock, thing int) {
	t.Helper()
	if e := c.Retire(thing); e != api.ErrLong {
		t.Errorf("Retire of %d: %d, not %d", thing, e, api.ErrLong)
	}
}

func free(t *testing.T, c *epoch.Clock, want ...int) {
	t.Helper()
	if got := c.Free(); !slices.Equal(got, want) {
		t.Errorf("Free at %d, %d: %s, not %s", c.Global(), c.Snapshot(), short(got), short(want))
	}
}

// count has so many numbers from one on.
func count(from, many int) []int {
	list := make([]int, many)
	for i := range list {
		list[i] = from + i
	}
	return list
}

// noWorker has numbers that no worker of a clock with so many has.
func noWorker(workers int) []int {
	return []int{-1, -2, -workers, -workers - 1, math.MinInt, math.MinInt + 1, math.MinInt32,
		workers, workers + 1, api.MaxWorkers, api.MaxWorkers + 1, 1 << 32, 1<<32 + 1, math.MaxInt - 1, math.MaxInt}
}

// 10.1: New, Global and Snapshot.

func TestNewTellsItsEpochs(t *testing.T) {
	for _, workers := range []int{1, 2, 15, 16} {
		for _, every := range []int{1, 2, 3, 4095, 4096} {
			for _, first := range []int{1, 2, 3, 4096, 1 << 20, 1<<31 - 1, 1 << 31} {
				c := clock(t, workers, every, first)
				at(t, c, first, first-1)
				at(t, c, first, first-1)
			}
		}
	}
}

func TestNewHasSoManyIdleWorkers(t *testing.T) {
	for workers := 1; workers <= api.MaxWorkers; workers++ {
		c := clock(t, workers, 1, 5)
		for w := range workers {
			leave(t, c, w, api.ErrWorker)
		}
		advance(t, c, true, api.OK)
		for w := range workers {
			enter(t, c, w, 6)
		}
		notEnter(t, c, workers)
		leave(t, c, workers, api.ErrWorker)
	}
}

func TestNewRefusesNumbersOutside(t *testing.T) {
	outside := []int{0, -1, -2, -16, -4096, -1 << 31, math.MinInt, math.MinInt + 1, 1<<31 + 1, 1 << 32, 1<<32 + 1, math.MaxInt - 1, math.MaxInt}
	workers := append([]int{17, 18, 32, 4096, 1 << 31}, outside...)
	every := append([]int{4097, 4098, 8192, 1 << 31}, outside...)
	for _, n := range workers {
		notNew(t, n, 1, 1)
		notNew(t, n, api.MaxItems, api.MaxEpoch)
	}
	for _, n := range every {
		notNew(t, 1, n, 1)
		notNew(t, api.MaxWorkers, n, api.MaxEpoch)
	}
	for _, n := range outside {
		notNew(t, 1, 1, n)
		notNew(t, api.MaxWorkers, api.MaxItems, n)
		notNew(t, n, n, 1)
		notNew(t, 1, n, n)
		notNew(t, n, 1, n)
		notNew(t, n, n, n)
	}
}

func TestNewHasNoThings(t *testing.T) {
	c := clock(t, 1, 1, 1)
	free(t, c)
	rise(t, c, 5)
	free(t, c)
}

// 10.2: Enter and Leave.

func TestEnterTellsTheGlobalEpoch(t *testing.T) {
	c := clock(t, 3, 2, 7)
	enter(t, c, 1, 7)
	advance(t, c, true, api.OK)
	enter(t, c, 0, 8)
	enter(t, c, 2, 8)
	leave(t, c, 1, api.OK)
	enter(t, c, 1, 8)
	rise(t, c, 1)
	for w := range 3 {
		leave(t, c, w, api.OK)
		enter(t, c, w, 9)
	}
}

func TestEnterOfOneThatWorks(t *testing.T) {
	for _, workers := range []int{1, 2, api.MaxWorkers} {
		for w := range workers {
			c := clock(t, workers, 1, 4)
			enter(t, c, w, 4)
			notEnter(t, c, w)
			advance(t, c, true, api.OK)
			// Were its epoch another one now, the next one could rise.
			notEnter(t, c, w)
			advance(t, c, false, api.OK)
			at(t, c, 5, 3)
			leave(t, c, w, api.OK)
			advance(t, c, true, api.OK)
		}
	}
}

func TestLeaveOfOneThatIsIdle(t *testing.T) {
	for _, workers := range []int{1, 2, api.MaxWorkers} {
		for w := range workers {
			c := clock(t, workers, 1, 4)
			leave(t, c, w, api.ErrWorker)
			enter(t, c, w, 4)
			leave(t, c, w, api.OK)
			leave(t, c, w, api.ErrWorker)
			rise(t, c, 3)
			leave(t, c, w, api.ErrWorker)
			enter(t, c, w, 7)
		}
	}
}

func TestNoSuchWorker(t *testing.T) {
	for workers := 1; workers <= api.MaxWorkers; workers++ {
		c := clock(t, workers, 1, 2)
		retire(t, c, 11)
		enter(t, c, workers-1, 2)
		for _, w := range noWorker(workers) {
			notEnter(t, c, w)
			leave(t, c, w, api.ErrWorker)
		}
		at(t, c, 2, 1)
		advance(t, c, true, api.OK)
		for _, w := range noWorker(workers) {
			notEnter(t, c, w)
			leave(t, c, w, api.ErrWorker)
		}
		// The one that works does so still, at its epoch, and no other one does.
		advance(t, c, false, api.OK)
		free(t, c)
		for w := range workers - 1 {
			leave(t, c, w, api.ErrWorker)
		}
		leave(t, c, workers-1, api.OK)
		rise(t, c, 1)
		free(t, c, 11)
	}
}

func TestWorkersAreApart(t *testing.T) {
	for one := range api.MaxWorkers {
		for other := range api.MaxWorkers {
			if one == other {
				continue
			}
			c := clock(t, api.MaxWorkers, 1, 1)
			enter(t, c, one, 1)
			leave(t, c, other, api.ErrWorker)
			enter(t, c, other, 1)
			leave(t, c, one, api.OK)
			leave(t, c, one, api.ErrWorker)
			notEnter(t, c, other)
			leave(t, c, other, api.OK)
		}
	}
}

// Entering and leaving leave the clock's epochs and things as they are.
func TestWorkersDoNotMoveEpochs(t *testing.T) {
	c := clock(t, 2, 1, 3)
	retire(t, c, 1, 2)
	for range 50 {
		enter(t, c, 0, 3)
		enter(t, c, 1, 3)
		leave(t, c, 0, api.OK)
		leave(t, c, 1, api.OK)
		at(t, c, 3, 2)
		free(t, c)
	}
	rise(t, c, 2)
	free(t, c, 1, 2)
}

// 10.3: Advance.

func TestAdvanceWithNobodyAtWork(t *testing.T) {
	c := clock(t, api.MaxWorkers, 1, 1)
	for global := 2; global < 300; global++ {
		advance(t, c, true, api.OK)
		at(t, c, global, global-2)
	}
}

func TestAdvanceWhileAWorkerIsAtTheGlobalEpoch(t *testing.T) {
	for w := range api.MaxWorkers {
		c := clock(t, api.MaxWorkers, 1, 9)
		enter(t, c, w, 9)
		advance(t, c, true, api.OK)
		at(t, c, 10, 8)
	}
}

func TestAdvanceWhileAWorkerIsBelowTheGlobalEpoch(t *testing.T) {
	for w := range api.MaxWorkers {
		c := clock(t, api.MaxWorkers, 1, 9)
		retire(t, c, 5)
		enter(t, c, w, 9)
		rise(t, c, 1)
		for other := range api.MaxWorkers {
			if other != w {
				enter(t, c, other, 10)
			}
		}
		for range 5 {
			advance(t, c, false, api.OK)
			at(t, c, 10, 8)
			free(t, c)
		}
		leave(t, c, w, api.OK)
		// The others work, each at the global epoch: they stay at theirs.
		advance(t, c, true, api.OK)
		at(t, c, 11, 9)
		free(t, c, 5)
		advance(t, c, false, api.OK)
		for other := range api.MaxWorkers {
			if other != w {
				advance(t, c, false, api.OK)
				leave(t, c, other, api.OK)
			}
		}
		advance(t, c, true, api.OK)
		at(t, c, 12, 10)
	}
}

// One that has left, and has entered again, is no longer behind.
func TestAdvanceBehindEnteringAgain(t *testing.T) {
	c := clock(t, 2, 1, 1)
	for global := 1; global < 100; global++ {
		enter(t, c, 0, global)
		rise(t, c, 1)
		advance(t, c, false, api.OK)
		at(t, c, global+1, max(0, global-1))
		leave(t, c, 0, api.OK)
	}
}

func TestAdvanceAtTheLastEpoch(t *testing.T) {
	for _, every := range []int{1, 2, 3, api.MaxItems} {
		c := clock(t, 2, every, api.MaxEpoch)
		enter(t, c, 0, api.MaxEpoch)
		retire(t, c, 3)
		for range 3 {
			advance(t, c, false, api.ErrRange)
			at(t, c, api.MaxEpoch, api.MaxEpoch-1)
			free(t, c)
		}
		leave(t, c, 0, api.OK)
		advance(t, c, false, api.ErrRange)
		enter(t, c, 1, api.MaxEpoch)
	}
}

func TestAdvanceJustAheadOfTheLastEpoch(t *testing.T) {
	c := clock(t, 1, 1, api.MaxEpoch-2)
	at(t, c, api.MaxEpoch-2, api.MaxEpoch-3)
	retire(t, c, 1)
	rise(t, c, 1)
	at(t, c, api.MaxEpoch-1, api.MaxEpoch-3)
	retire(t, c, 2)
	rise(t, c, 1)
	at(t, c, api.MaxEpoch, api.MaxEpoch-2)
	retire(t, c, 3)
	advance(t, c, false, api.ErrRange)
	free(t, c, 1)
	advance(t, c, false, api.ErrRange)
	at(t, c, api.MaxEpoch, api.MaxEpoch-2)
	free(t, c)
}

// At the last epoch a worker may be behind, too: the error is named ahead of the false, and leaves all as it is.
func TestAdvanceAtTheLastEpochWithAWorkerBehind(t *testing.T) {
	c := clock(t, 1, 1, api.MaxEpoch-1)
	enter(t, c, 0, api.MaxEpoch-1)
	rise(t, c, 1)
	advance(t, c, false, api.ErrRange)
	at(t, c, api.MaxEpoch, api.MaxEpoch-2)
	notEnter(t, c, 0)
	leave(t, c, 0, api.OK)
	advance(t, c, false, api.ErrRange)
	enter(t, c, 0, api.MaxEpoch)
}

// The last epoch is a multiple of each power of 2 up to it, and of no other number.
func TestSnapshotAtTheLastEpoch(t *testing.T) {
	for _, x := range []struct{ every, want int }{
		{1, api.MaxEpoch - 2}, {2, api.MaxEpoch - 2}, {1024, api.MaxEpoch - 2}, {4096, api.MaxEpoch - 2},
		{3, api.MaxEpoch - 4}, {5, api.MaxEpoch - 5}, {1000, api.MaxEpoch - 6}, {4095, api.MaxEpoch - 6},
	} {
		c := clock(t, 1, x.every, api.MaxEpoch-5)
		rise(t, c, 5)
		at(t, c, api.MaxEpoch, x.want)
	}
}

func TestSnapshotAtMultiples(t *testing.T) {
	for _, x := range []struct {
		every, first int
		snapshots    []int // from the first epoch on
	}{
		{1, 1, []int{0, 0, 1, 2, 3, 4, 5}},
		{1, 9, []int{8, 8, 9, 10, 11}},
		{2, 1, []int{0, 0, 0, 2, 2, 4, 4, 6}},
		{2, 2, []int{1, 1, 2, 2, 4, 4}},
		{3, 1, []int{0, 0, 1, 1, 1, 4, 4, 4, 7}},
		{3, 2, []int{1, 1, 1, 1, 4, 4, 4, 7}},
		{3, 3, []int{2, 2, 2, 4, 4, 4, 7}},
		{4, 1, []int{0, 0, 0, 2, 2, 2, 2, 6, 6}},
		{4, 9, []int{8, 8, 8, 10, 10, 10, 10, 14, 14}},
		{4, 10, []int{9, 9, 10, 10, 10, 10, 14}},
		{4, 11, []int{10, 10, 10, 10, 10, 14}},
		{4, 12, []int{11, 11, 11, 11, 14}},
		{7, 20, []int{19, 19, 19, 19, 19, 19, 19, 19, 26, 26}},
		{4096, 4094, []int{4093, 4093, 4094, 4094, 4094}},
		{4095, 4094, []int{4093, 4093, 4093, 4093}},
	} {
		c := clock(t, 1, x.every, x.first)
		for i, snapshot := range x.snapshots {
			if i > 0 {
				advance(t, c, true, api.OK)
			}
			at(t, c, x.first+i, snapshot)
		}
	}
}

func TestSnapshotBetweenMultiples(t *testing.T) {
	c := clock(t, 1, api.MaxItems, 1)
	rise(t, c, api.MaxItems-2)
	at(t, c, api.MaxItems-1, 0)
	rise(t, c, 1)
	at(t, c, api.MaxItems, api.MaxItems-2)
	rise(t, c, api.MaxItems-1)
	at(t, c, 2*api.MaxItems-1, api.MaxItems-2)
	rise(t, c, 1)
	at(t, c, 2*api.MaxItems, 2*api.MaxItems-2)
}

// Just behind the first epoch the global one less 2 is just what the snapshot epoch is: it does not fall.
func TestSnapshotStaysWhenTheFirstEpochHasPassed(t *testing.T) {
	for first := 1; first < 50; first++ {
		for every := 1; every < 50; every++ {
			c := clock(t, 1, every, first)
			rise(t, c, 1)
			at(t, c, first+1, first-1)
		}
	}
}

// 10.4: Retire and Free.

func TestFreeOfNoThings(t *testing.T) {
	c := clock(t, 2, 1, 1)
	for range 6 {
		free(t, c)
		enter(t, c, 0, c.Global())
		free(t, c)
		rise(t, c, 1)
		free(t, c)
		leave(t, c, 0, api.OK)
	}
}

func TestFreeAtTheSnapshotEpochAndAboveIt(t *testing.T) {
	c := clock(t, 1, 4, 1)
	for range 3 {
		retire(t, c, 10*c.Global(), 10*c.Global()+1)
		free(t, c)
		rise(t, c, 1)
	}
	at(t, c, 4, 2)
	free(t, c, 10, 11, 20, 21)
	free(t, c)
	for range 4 {
		retire(t, c, 10*c.Global())
		free(t, c)
		rise(t, c, 1)
	}
	at(t, c, 8, 6)
	free(t, c, 30, 31, 40, 50, 60)
	free(t, c)
	rise(t, c, 3)
	free(t, c)
	rise(t, c, 1)
	free(t, c, 70)
}

// The snapshot epoch of a new clock is no epoch at which a thing of its own was retired.
func TestFreeInTheFirstEpochs(t *testing.T) {
	for _, first := range []int{1, 2, 7, 8, 1 << 20, api.MaxEpoch - 2} {
		c := clock(t, 1, 1, first)
		retire(t, c, first)
		free(t, c)
		rise(t, c, 1)
		free(t, c)
		rise(t, c, 1)
		free(t, c, first)
	}
}

func TestFreeWhileWorkersWork(t *testing.T) {
	c := clock(t, 2, 1, 1)
	retire(t, c, 1)
	enter(t, c, 0, 1)
	rise(t, c, 1)
	retire(t, c, 2)
	enter(t, c, 1, 2)
	// The worker 0 is at the epoch of the first thing.
	free(t, c)
	leave(t, c, 0, api.OK)
	free(t, c)
	rise(t, c, 1)
	at(t, c, 3, 1)
	// The worker 1 is above the first thing's epoch, and at that of the second.
	free(t, c, 1)
	free(t, c)
	enter(t, c, 0, 3)
	leave(t, c, 1, api.OK)
	free(t, c)
	rise(t, c, 1)
	at(t, c, 4, 2)
	free(t, c, 2)
	leave(t, c, 0, api.OK)
	free(t, c)
}

// That the workers leave is not enough: the snapshot epoch has to rise.
func TestFreeWaitsForTheSnapshotEpoch(t *testing.T) {
	c := clock(t, 1, 100, 1)
	enter(t, c, 0, 1)
	retire(t, c, 4)
	leave(t, c, 0, api.OK)
	for range 98 {
		free(t, c)
		rise(t, c, 1)
	}
	at(t, c, 99, 0)
	free(t, c)
	rise(t, c, 1)
	free(t, c, 4)
}

func TestFreeTellsInTheOrderOfRetiring(t *testing.T) {
	c := clock(t, 1, 5, 1)
	retire(t, c, 9, 3, 7)
	rise(t, c, 1)
	retire(t, c, 8, 1)
	rise(t, c, 1)
	retire(t, c, 5, 6, 2)
	rise(t, c, 2)
	at(t, c, 5, 3)
	free(t, c, 9, 3, 7, 8, 1, 5, 6, 2)
}

func TestFreeTellsThoseThatStayBehindLater(t *testing.T) {
	c := clock(t, 1, 1, 1)
	for global := 1; global < 60; global++ {
		retire(t, c, -global, global)
		if global >= 3 {
			free(t, c, 2-global, global-2)
		}
		free(t, c)
		rise(t, c, 1)
	}
}

func TestThingsMayBeAnyNumbers(t *testing.T) {
	things := []int{0, -1, 1, math.MinInt, math.MaxInt, 1 << 31, -1 << 31, 1<<31 + 1, 1 << 32, math.MinInt + 1, math.MaxInt - 1, 0}
	c := clock(t, 1, 1, 1)
	retire(t, c, things...)
	rise(t, c, 2)
	free(t, c, things...)
	free(t, c)
}

func TestTheSameThingRetiredAgain(t *testing.T) {
	c := clock(t, 1, 1, 1)
	retire(t, c, 7, 7, 8, 7)
	rise(t, c, 1)
	retire(t, c, 7)
	rise(t, c, 1)
	free(t, c, 7, 7, 8, 7)
	rise(t, c, 1)
	free(t, c, 7)
	retire(t, c, 7)
	rise(t, c, 2)
	free(t, c, 7)
	free(t, c)
}

func TestAsManyThingsAsMayBe(t *testing.T) {
	c := clock(t, 1, 1, 1)
	retire(t, c, count(0, api.MaxItems-1)...)
	retire(t, c, -5)
	for _, thing := range []int{0, -5, api.MaxItems, math.MinInt, math.MaxInt} {
		notRetire(t, c, thing)
	}
	free(t, c)
	notRetire(t, c, 1)
	at(t, c, 1, 0)
	rise(t, c, 2)
	free(t, c, append(count(0, api.MaxItems-1), -5)...)
	retire(t, c, count(1, api.MaxItems)...)
	notRetire(t, c, 1)
	rise(t, c, 2)
	free(t, c, count(1, api.MaxItems)...)
	free(t, c)
}

func TestAsManyAgainAsWereTold(t *testing.T) {
	for _, some := range []int{1, 2, 1000, api.MaxItems - 1} {
		c := clock(t, 1, 1, 1)
		retire(t, c, count(0, some)...)
		rise(t, c, 1)
		retire(t, c, count(some, api.MaxItems-some)...)
		notRetire(t, c, 0)
		rise(t, c, 1)
		free(t, c, count(0, some)...)
		retire(t, c, count(api.MaxItems, some)...)
		notRetire(t, c, 0)
		rise(t, c, 1)
		free(t, c, count(some, api.MaxItems-some)...)
		rise(t, c, 1)
		free(t, c, count(api.MaxItems, some)...)
		free(t, c)
	}
}

// A thing counts until Free has told it, even if it could have.
func TestThingsCountUntilTheyAreTold(t *testing.T) {
	c := clock(t, 1, 1, 1)
	retire(t, c, count(0, api.MaxItems)...)
	for range 5 {
		notRetire(t, c, 1)
		rise(t, c, 1)
	}
	notRetire(t, c, 1)
	free(t, c, count(0, api.MaxItems)...)
	retire(t, c, 1)
}

// A thing that was not retired is never told.
func TestRefusedThingsAreNotTold(t *testing.T) {
	c := clock(t, 1, 1, 1)
	retire(t, c, count(0, api.MaxItems)...)
	rise(t, c, 1)
	notRetire(t, c, -1)
	rise(t, c, 1)
	notRetire(t, c, -2)
	free(t, c, count(0, api.MaxItems)...)
	rise(t, c, 5)
	free(t, c)
}

func TestThingsComeAndGoForLong(t *testing.T) {
	c := clock(t, 1, 1, 1)
	next, told := 0, 0
	for range 200 {
		retire(t, c, count(next, 1000)...)
		next += 1000
		rise(t, c, 1)
		for _, thing := range c.Free() {
			if thing != told {
				t.Fatalf("%d is told, not %d", thing, told)
			}
			told++
		}
	}
	if told != next-1000 {
		t.Errorf("%d were told of %d", told, next)
	}
}

// Rules.

func TestClocksAreApart(t *testing.T) {
	a, b := clock(t, 2, 1, 1), clock(t, 2, 1, 1)
	enter(t, a, 0, 1)
	leave(t, b, 0, api.ErrWorker)
	retire(t, a, 1)
	rise(t, b, 4)
	at(t, a, 1, 0)
	free(t, b)
	enter(t, b, 0, 5)
	retire(t, b, 2)
	leave(t, a, 0, api.OK)
	rise(t, b, 1)
	advance(t, b, false, api.OK)
	rise(t, a, 2)
	at(t, a, 3, 1)
	at(t, b, 6, 4)
	free(t, a, 1)
	free(t, b)
	leave(t, b, 0, api.OK)
	rise(t, b, 1)
	free(t, b, 2)
	free(t, a)
	retire(t, a, count(0, api.MaxItems)...)
	retire(t, b, 3)
	notRetire(t, a, 3)
}

// spoil changes all of a list, its spare room too.
func spoil(list []int) {
	list = list[:cap(list)]
	for i := range list {
		list[i] = -99
	}
}

// R4: a change of what Free told changes nothing that later calls tell.
func TestFreeTellsNewMemory(t *testing.T) {
	for _, many := range []int{0, 1, 2, 3, 5, 17, 1000} {
		c := clock(t, 1, 1, 1)
		retire(t, c, count(0, many)...)
		rise(t, c, 1)
		retire(t, c, count(many, many)...)
		spoil(c.Free())
		rise(t, c, 1)
		first := c.Free()
		if !slices.Equal(first, count(0, many)) {
			t.Errorf("of %d: %s", many, short(first))
		}
		spoil(first)
		retire(t, c, count(2*many, many)...)
		spoil(first)
		rise(t, c, 1)
		second := c.Free()
		if !slices.Equal(second, count(many, many)) {
			t.Errorf("of %d: %s", many, short(second))
		}
		first = append(first[:0], count(5, cap(first))...)
		rise(t, c, 1)
		free(t, c, count(2*many, many)...)
		if !slices.Equal(second, count(many, many)) || !slices.Equal(first, count(5, cap(first))) {
			t.Errorf("of %d: what was told is another one now", many)
		}
	}
}

// R4: what the clock goes on with does not change what was told.
func TestWhatWasToldStays(t *testing.T) {
	c := clock(t, 1, 1, 1)
	var all [][]int
	for global := 1; global < 40; global++ {
		retire(t, c, count(100*global, global)...)
		rise(t, c, 1)
		all = append(all, c.Free())
	}
	for i, list := range all {
		if want := count(100*i, i); !slices.Equal(list, want) {
			t.Errorf("%d: %s, not %s", i, short(list), short(want))
		}
	}
}

// Example 1 of the chapter.
func TestExample(t *testing.T) {
	c := clock(t, 2, 1, 1)
	at(t, c, 1, 0)
	enter(t, c, 0, 1)
	advance(t, c, true, api.OK)
	at(t, c, 2, 0)
	advance(t, c, false, api.OK)
	leave(t, c, 0, api.OK)
	enter(t, c, 0, 2)
	advance(t, c, true, api.OK)
	at(t, c, 3, 1)
	retire(t, c, 7)
	free(t, c)
	leave(t, c, 0, api.OK)
	rise(t, c, 2)
	at(t, c, 5, 3)
	free(t, c, 7)
	free(t, c)
}
