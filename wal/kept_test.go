package wal

import (
	"testing"

	"hopper/api"
	"hopper/disk"
)

// What is seen from within alone.

// What a log keeps is no more than its promises need: what is written is let go of, from spare room, too.
func TestWhatIsWrittenIsNotKept(t *testing.T) {
	l, _ := Open(disk.New(), 1)
	for n := range 100 {
		l.Add(0, api.Entry{Tid: uint64(1)<<23 + uint64(n)<<3, Writes: []api.Write{{Table: "t"}}})
		if n%3 > 0 {
			continue
		}
		list := l.workers[0].waiting
		l.Flush(0)
		for _, x := range list[:cap(list)] {
			if x != (line{}) {
				t.Fatal("what was written is kept:", x)
			}
		}
	}
	if many := cap(l.workers[0].waiting); many > 16 {
		t.Error("room for many is kept:", many)
	}
}

// What a work gives up with is its error, and beside it nothing is told.
func TestGivingUp(t *testing.T) {
	for _, e := range []api.Errno{api.ErrNone, api.ErrLog, api.ErrDown, api.ErrCorrupt} {
		if got := done(func() { must(e) }); got != e {
			t.Error(got, e)
		}
		if n, got := told(func() int { refuse(true, e); return 5 }); n != 0 || got != e {
			t.Error(n, got)
		}
	}
	if n, e := told(func() int { must(api.OK); refuse(false, api.ErrLog); return 5 }); n != 5 || e != api.OK {
		t.Error(n, e)
	}
}

// A panic that is no mistake is not taken for one, not even an error's number.
func TestOtherPanicsGoOn(t *testing.T) {
	for _, other := range []any{"another", api.ErrLog, 180} {
		func() {
			defer func() {
				if x := recover(); x != other {
					t.Error(x, "in the place of", other)
				}
			}()
			done(func() { panic(other) })
			t.Error("a panic was swallowed:", other)
		}()
	}
}
