package wal_test

import (
	"maps"
	"math"
	"math/rand"
	"testing"

	"hopper/api"
	"hopper/disk"
	"hopper/wal"
)

// Drawn scripts: a log and the model do the same, on a disk each. All that is told, and all files, are held against each other, behind crashes, too.

type script struct {
	t     *testing.T
	r     *rand.Rand
	d     *disk.Disk
	own   *disk.Disk // the model's
	l     *wal.Log
	m     *model
	heavy bool // entries are long, so that files are full soon
	told  map[string]int
}

// same notes how often a call told what it did, and holds that the model told the same.
func (s *script) same(what string, got, want api.Errno) {
	s.t.Helper()
	s.told[what+" "+brief(got)]++
	if got != want {
		s.t.Fatalf("%s: %d, not %d", what, got, want)
	}
}

func (s *script) sameNumbers(what string, got, want int) {
	s.t.Helper()
	if got != want {
		s.t.Fatalf("%s: %d, not %d", what, got, want)
	}
}

func (s *script) sameFiles(what string) {
	s.t.Helper()
	if !maps.Equal(filesOf(s.d), filesOf(s.own)) {
		holds(s.t, what, s.d, filesOf(s.own))
		s.t.FailNow()
	}
}

// open asks until it is answered with a log.
func (s *script) open() {
	for {
		workers := s.r.Intn(6)
		if s.r.Intn(4) == 0 {
			s.fuse(s.r.Intn(5))
		}
		l, e := wal.Open(s.d, workers)
		m, want := modelOpen(s.own, workers)
		s.same("Open", e, want)
		s.sameFiles("Open")
		if (l == nil) != (m == nil) {
			s.t.Fatal("Open:", l, e)
		}
		if l != nil {
			s.l, s.m = l, m
			return
		}
		if e == api.ErrDown {
			s.crash()
		}
		if e == api.ErrCorrupt {
			// A log has written behind a stranger's bytes.
			s.d, s.own = disk.New(), disk.New()
		}
	}
}

func (s *script) fuse(n int) {
	s.d.Fuse(n)
	s.own.Fuse(n)
}

func (s *script) crash() {
	draws := make([]int, s.r.Intn(4))
	for i := range draws {
		draws[i] = s.r.Intn(200) - 10
	}
	s.d.Crash(draws)
	s.own.Crash(draws)
	s.sameFiles("a crash")
	s.load()
}

func (s *script) load() {
	list, n, e := wal.Load(s.d)
	want, durable, code := modelLoad(filesOf(s.own))
	s.same("Load", e, code)
	if n != durable || !sameEntries(list, want) {
		s.t.Fatalf("Load: %s %d, not %s %d", brief(list), n, brief(want), durable)
	}
}

// check holds all that a log tells without a change.
func (s *script) check() {
	for w := -1; w <= len(s.m.waiting); w++ {
		n, e := s.l.Waiting(w)
		want, code := s.m.Waiting(w)
		s.same("Waiting", e, code)
		s.sameNumbers("Waiting", n, want)
	}
	s.sameFiles("files")
}

// worker is one that there is, as a rule.
func (s *script) worker() int {
	if s.r.Intn(20) == 0 {
		return []int{-1, len(s.m.waiting)}[s.r.Intn(2)]
	}
	return s.r.Intn(len(s.m.waiting))
}

func (s *script) entry(w int) api.Entry {
	epoch, seq := s.m.durable+s.r.Intn(3), s.r.Intn(3)
	if s.m.has(w) && s.r.Intn(4) > 0 {
		// Behind the last one.
		epoch = max(epoch, int(s.m.last[w]>>23))
		seq += int(s.m.last[w]>>3) & api.MaxSeq
	}
	x := drawEntry(s.r, epoch, seq)
	if s.r.Intn(12) == 0 {
		x = drawWrong(s.r, x)
	}
	if s.heavy && s.r.Intn(4) > 0 {
		x = sized(epoch, seq, longest-s.r.Intn(20)*1000+s.r.Intn(2))
	}
	return x
}

func (s *script) add() api.Errno {
	w := s.worker()
	x := s.entry(w)
	e := s.l.Add(w, x)
	s.same("Add", e, s.m.Add(w, x))
	return e
}

func (s *script) flush() api.Errno {
	w := s.worker()
	e := s.l.Flush(w)
	s.same("Flush", e, s.m.Flush(w))
	return e
}

func (s *script) mark() api.Errno {
	epoch := s.m.durable + s.r.Intn(4) - 1
	if s.r.Intn(60) == 0 {
		epoch = []int{math.MinInt, -1, 0, api.MaxEpoch + 1, math.MaxInt}[s.r.Intn(5)]
	}
	e := s.l.Mark(epoch)
	s.same("Mark", e, s.m.Mark(epoch))
	return e
}

func (s *script) rotate() api.Errno {
	g, e := s.l.Rotate()
	want, code := s.m.Rotate()
	s.same("Rotate", e, code)
	s.sameNumbers("Rotate", g, want)
	return e
}

func (s *script) trim() api.Errno {
	most := s.m.generation - s.r.Intn(5)
	n, e := s.l.Trim(most)
	want, code := s.m.Trim(most)
	s.same("Trim", e, code)
	s.sameNumbers("Trim", n, want)
	return e
}

// stranger puts a file on both disks that no log has written.
func (s *script) stranger() {
	names := append(logNames()[:8], otherNames()[:8]...)
	name := names[s.r.Intn(len(names))]
	data := []string{"", "x", logged(drawEntry(s.r, s.r.Intn(9), s.r.Intn(5))), marked(3)}[s.r.Intn(4)]
	if _, there := filesOf(s.d)[name]; there || generationIn(name) >= 0 && data == marked(3) {
		return
	}
	s.d.Append(name, data)
	s.own.Append(name, data)
}

func (s *script) step() {
	var e api.Errno
	switch n := s.r.Intn(100); {
	case n < 50:
		e = s.add()
	case n < 70:
		e = s.flush()
	case n < 83:
		e = s.mark()
	case n < 88:
		e = s.rotate()
	case n < 91:
		e = s.trim()
	case n < 94:
		s.load()
	case n < 96:
		s.stranger()
	case n < 98:
		s.fuse(s.r.Intn(12))
	default:
		s.crash()
		s.open()
	}
	s.check()
	if e == api.ErrDown {
		// It is not to be asked any more.
		s.crash()
		s.open()
	}
}

func TestDrawnScripts(t *testing.T) {
	told := map[string]int{}
	for seed := range int64(320) {
		s := &script{t: t, r: rand.New(rand.NewSource(seed)), d: disk.New(), own: disk.New(), told: told, heavy: seed%16 == 0}
		s.open()
		for range 150 {
			s.step()
		}
		s.crash()
	}
	for _, what := range []string{"Open 0", "Open 1", "Open 11", "Add 0", "Add 2", "Add 100", "Add 111", "Add 180", "Flush 0", "Flush 2", "Flush 11", "Flush 100", "Mark 0", "Mark 1", "Mark 11", "Mark 180", "Rotate 0", "Trim 0", "Trim 1", "Trim 11", "Load 0", "Waiting 0", "Waiting 100"} {
		if told[what] == 0 {
			t.Error("never told:", what)
		}
	}
}
