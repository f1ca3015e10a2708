package epoch_test

import (
	"fmt"
	"math"
	"math/rand"
	"slices"
	"strings"
	"testing"

	"hopper/api"
	"hopper/epoch"
)

// model is the chapter's words, written out as plainly as may be. It keeps all that ever was, and with each thing the visits that went on as it was retired.
type model struct {
	workers, every   int
	global, snapshot int
	visits           []visit
	things           []thing
}

// visit is a worker's time from an Enter to its Leave.
type visit struct {
	worker, epoch int
	left          bool
}

type thing struct {
	number, epoch int
	told          bool
	during        []int // which visits went on
}

func newModel(workers, every, first int) *model {
	return &model{workers: workers, every: every, global: first, snapshot: first - 1}
}

// going has the visits that go on.
func (m *model) going() []int {
	var list []int
	for i, v := range m.visits {
		if !v.left {
			list = append(list, i)
		}
	}
	return list
}

// visitOf answers the visit that a worker is at, or -1.
func (m *model) visitOf(w int) int {
	for _, i := range m.going() {
		if m.visits[i].worker == w {
			return i
		}
	}
	return -1
}

func (m *model) Enter(w int) (int, api.Errno) {
	if w < 0 || w > m.workers-1 || m.visitOf(w) != -1 {
		return 0, api.ErrWorker
	}
	m.visits = append(m.visits, visit{worker: w, epoch: m.global})
	return m.global, api.OK
}

func (m *model) Leave(w int) api.Errno {
	if m.visitOf(w) == -1 {
		return api.ErrWorker
	}
	m.visits[m.visitOf(w)].left = true
	return api.OK
}

func (m *model) Advance() (bool, api.Errno) {
	if m.global == 1<<31 {
		return false, api.ErrRange
	}
	for _, i := range m.going() {
		if m.visits[i].epoch < m.global {
			return false, api.OK
		}
	}
	m.global++
	if m.global/m.every*m.every == m.global && m.global-2 > m.snapshot {
		m.snapshot = m.global - 2
	}
	return true, api.OK
}

func (m *model) Global() int { return m.global }

func (m *model) Snapshot() int { return m.snapshot }

func (m *model) waiting() int {
	n := 0
	for _, x := range m.things {
		if !x.told {
			n++
		}
	}
	return n
}

func (m *model) Retire(number int) api.Errno {
	if m.waiting() == 4096 {
		return api.ErrLong
	}
	m.things = append(m.things, thing{number: number, epoch: m.global, during: m.going()})
	return api.OK
}

func (m *model) isFree(x thing) bool {
	for _, i := range m.going() {
		if x.epoch >= m.visits[i].epoch {
			return false
		}
	}
	return x.epoch <= m.snapshot
}

func (m *model) Free() []int {
	var list []int
	for i, x := range m.things {
		if !x.told && m.isFree(x) {
			m.things[i].told = true
			list = append(list, x.number)
		}
	}
	return list
}

// ticker is what a script runs on: the package's clock, or the model.
type ticker interface {
	Enter(w int) (int, api.Errno)
	Leave(w int) api.Errno
	Advance() (bool, api.Errno)
	Global() int
	Snapshot() int
	Retire(thing int) api.Errno
	Free() []int
}

func short(list []int) string {
	if len(list) > 20 {
		return fmt.Sprintf("%d things from %d to %d", len(list), list[0], list[len(list)-1])
	}
	return fmt.Sprint(list)
}

// step is one call of a script, and tells all that the call answered; what Free told stands in full.
type step struct {
	name string
	do   func(c ticker) string
}

func entering(w int) step {
	return step{fmt.Sprint("Enter ", w), func(c ticker) string {
		n, e := c.Enter(w)
		return fmt.Sprint(n, " ", e)
	}}
}

func leaving(w int) step {
	return step{fmt.Sprint("Leave ", w), func(c ticker) string { return fmt.Sprint(c.Leave(w)) }}
}

func advancing() step {
	return step{"Advance", func(c ticker) string {
		x, e := c.Advance()
		return fmt.Sprint(x, " ", e)
	}}
}

func retiring(from, many int) step {
	return step{fmt.Sprintf("Retire %d from %d", many, from), func(c ticker) string {
		var told strings.Builder
		for i := range many {
			fmt.Fprint(&told, c.Retire(from+i), " ")
		}
		return told.String()
	}}
}

func freeing() step {
	return step{"Free", func(c ticker) string { return fmt.Sprint(c.Free()) }}
}

func randomWorker(r *rand.Rand, workers int) int {
	if r.Intn(10) > 0 {
		return r.Intn(workers)
	}
	return noWorker(workers)[r.Intn(len(noWorker(workers)))]
}

// shape says of what a script is made: how often things are retired in great numbers, and how often workers leave.
type shape struct {
	great, leave int
}

func randomStep(r *rand.Rand, s shape, workers int) step {
	switch n := r.Intn(10 + s.leave); {
	case n < 2:
		return entering(randomWorker(r, workers))
	case n < 5:
		return advancing()
	case n < 8:
		if r.Intn(100) < s.great {
			return retiring(r.Intn(1<<20), 200+r.Intn(1500))
		}
		return retiring(r.Intn(50)-25, 1+r.Intn(3))
	case n < 10:
		return freeing()
	}
	return leaving(randomWorker(r, workers))
}

func randomFirst(r *rand.Rand) int {
	switch r.Intn(4) {
	case 0:
		return 1
	case 1:
		return api.MaxEpoch - r.Intn(20)
	case 2:
		return 1 + r.Intn(api.MaxEpoch)
	}
	return 1 + r.Intn(20)
}

func randomEvery(r *rand.Rand) int {
	if r.Intn(10) == 0 {
		return 1 + r.Intn(api.MaxItems)
	}
	return 1 + r.Intn(5)
}

// drawn is how often each answer was drawn: a script that never meets an edge shows nothing of it.
type drawn map[string]int

func (d drawn) note(name, told string) {
	word, _, _ := strings.Cut(name, " ")
	switch word {
	case "Enter":
		told = told[strings.Index(told, " "):]
	case "Free":
		if told != "[]" {
			told = "some"
		}
	case "Retire":
		for _, e := range []api.Errno{api.OK, api.ErrLong} {
			d[fmt.Sprint("Retire ", e)] += strings.Count(told, fmt.Sprint(e, " "))
		}
		return
	}
	d[word+" "+strings.TrimSpace(told)]++
}

func (d drawn) enough(t *testing.T, names []string, least int) {
	t.Helper()
	for _, name := range names {
		if d[name] < least {
			t.Errorf("%s: only drawn %d times", name, d[name])
		}
	}
}

// together runs a script on a clock and a model, step by step, and fails where they part.
func together(t *testing.T, r *rand.Rand, s shape, steps int, d drawn) {
	t.Helper()
	workers, every, first := 1+r.Intn(api.MaxWorkers), randomEvery(r), randomFirst(r)
	if r.Intn(2) == 0 {
		workers = 1 + r.Intn(3)
	}
	c, m := clock(t, workers, every, first), newModel(workers, every, first)
	for i := range steps {
		x := randomStep(r, s, workers)
		got, want := x.do(c), x.do(m)
		if got != want || c.Global() != m.Global() || c.Snapshot() != m.Snapshot() {
			t.Fatalf("New %d %d %d, step %d, %s: %.300s (%d, %d), not %.300s (%d, %d)",
				workers, every, first, i, x.name, got, c.Global(), c.Snapshot(), want, m.Global(), m.Snapshot())
		}
		d.note(x.name, got)
	}
}

func TestLikeTheModel(t *testing.T) {
	d := drawn{}
	for seed := range int64(600) {
		r := rand.New(rand.NewSource(seed))
		together(t, r, shape{great: 0, leave: 1 + r.Intn(4)}, 250, d)
	}
	d.enough(t, []string{"Enter 0", "Enter 100", "Leave 0", "Leave 100", "Advance true 0", "Advance false 0", "Advance false 1", "Retire 0", "Free []", "Free some"}, 1000)
}

func TestLikeTheModelWithManyThings(t *testing.T) {
	d := drawn{}
	for seed := range int64(25) {
		r := rand.New(rand.NewSource(seed))
		together(t, r, shape{great: 20, leave: 4}, 150, d)
	}
	d.enough(t, []string{"Retire 0", "Retire 2"}, 1000)
	d.enough(t, []string{"Free some"}, 50)
}

// watch holds what is known from a clock's answers alone: which workers are in, at which epochs, and which of them were in as a thing was retired.
type watch struct {
	c          *epoch.Clock
	in         map[int]int // worker: its epoch
	visit      map[int]int // worker: the number of its visit
	visits     int
	during     map[int][]int // thing: the visits that went on
	gone       map[int]int   // visits that have ended: 1
	lastGlobal int
	lastSnap   int
	next       int
}

func newWatch(c *epoch.Clock) *watch {
	return &watch{c: c, in: map[int]int{}, visit: map[int]int{}, during: map[int][]int{}, gone: map[int]int{}, lastGlobal: c.Global(), lastSnap: c.Snapshot()}
}

func (x *watch) enter(w int) {
	if n, e := x.c.Enter(w); e == api.OK {
		x.in[w] = n
		x.visits++
		x.visit[w] = x.visits
	}
}

func (x *watch) leave(w int) {
	if x.c.Leave(w) == api.OK {
		x.gone[x.visit[w]] = 1
		delete(x.in, w)
	}
}

// retire retires a thing that is like no other one.
func (x *watch) retire() {
	if x.c.Retire(x.next) == api.OK {
		for w := range x.in {
			x.during[x.next] = append(x.during[x.next], x.visit[w])
		}
		x.next++
	}
}

func (x *watch) free(t *testing.T) {
	t.Helper()
	for _, thing := range x.c.Free() {
		for _, v := range x.during[thing] {
			if x.gone[v] == 0 {
				t.Errorf("the thing %d is told, and a worker has not left since", thing)
			}
		}
	}
}

func (x *watch) look(t *testing.T) {
	t.Helper()
	global, snap := x.c.Global(), x.c.Snapshot()
	if global < x.lastGlobal || snap < x.lastSnap {
		t.Errorf("an epoch fell: from %d to %d, or from %d to %d", x.lastGlobal, global, x.lastSnap, snap)
	}
	x.lastGlobal, x.lastSnap = global, snap
	for w, own := range x.in {
		if own < global-1 || own > global {
			t.Errorf("the worker %d is at %d while the global one is %d", w, own, global)
		}
		if snap >= own {
			t.Errorf("the worker %d is at %d while the snapshot epoch is %d", w, own, snap)
		}
	}
}

// 10.5: what follows.
func TestWhatFollows(t *testing.T) {
	told := 0
	for seed := range int64(400) {
		r := rand.New(rand.NewSource(seed))
		workers := 1 + r.Intn(5)
		x := newWatch(clock(t, workers, 1+r.Intn(3), 1+r.Intn(10)))
		for range 300 {
			switch r.Intn(7) {
			case 0:
				x.enter(r.Intn(workers))
			case 1, 2:
				x.leave(r.Intn(workers))
			case 3, 4:
				if ok, _ := x.c.Advance(); ok {
					told++
				}
			case 5:
				x.retire()
			case 6:
				x.free(t)
			}
			x.look(t)
		}
	}
	if told < 10000 {
		t.Errorf("epochs rose only %d times", told)
	}
}

// 10.5: a thing is told in the end, once all that worked have left and epochs have risen.
func TestAllIsToldInTheEnd(t *testing.T) {
	for seed := range int64(200) {
		r := rand.New(rand.NewSource(seed))
		workers, every := 1+r.Intn(5), 1+r.Intn(9)
		c := clock(t, workers, every, 1+r.Intn(10))
		var all, told []int
		for i := range 200 {
			x := randomStep(r, shape{leave: 3}, workers)
			switch {
			case strings.HasPrefix(x.name, "Retire"):
				retire(t, c, i)
				all = append(all, i)
			case x.name == "Free":
				told = append(told, c.Free()...)
			default:
				x.do(c)
			}
		}
		for w := range workers {
			c.Leave(w)
		}
		rise(t, c, every+1)
		told = append(told, c.Free()...)
		if !slices.Equal(told, all) {
			t.Errorf("seed %d: told were %s, not %s", seed, short(told), short(all))
		}
		free(t, c)
	}
}

// R7: the same calls tell the same.
func TestTheSameTellsTheSame(t *testing.T) {
	for seed := range int64(50) {
		r := rand.New(rand.NewSource(seed))
		workers, every, first := 1+r.Intn(4), randomEvery(r), randomFirst(r)
		a, b := clock(t, workers, every, first), clock(t, workers, every, first)
		var script []step
		var told []string
		for range 200 {
			x := randomStep(r, shape{great: 5, leave: 3}, workers)
			script = append(script, x)
			told = append(told, x.do(a))
		}
		for i, x := range script {
			if got := x.do(b); got != told[i] {
				t.Fatalf("seed %d, step %d, %s: %.300s, and %.300s ahead of it", seed, i, x.name, got, told[i])
			}
		}
	}
}

// R5: a call that answers an error, or a false, changes nothing that later calls tell.
func TestRefusedCallsChangeNothing(t *testing.T) {
	for seed := range int64(100) {
		r := rand.New(rand.NewSource(seed))
		workers, every, first := 1+r.Intn(4), randomEvery(r), randomFirst(r)
		a, b := clock(t, workers, every, first), clock(t, workers, every, first)
		for i := range 150 {
			x := randomStep(r, shape{great: 10, leave: 3}, workers)
			// Of what a asks the other one is asked only what is done.
			told := x.do(a)
			if isRefused(x, told) {
				continue
			}
			if got := x.do(b); got != told {
				t.Fatalf("seed %d, step %d, %s: %.300s, but %.300s where nothing was refused", seed, i, x.name, told, got)
			}
		}
		if a.Global() != b.Global() || a.Snapshot() != b.Snapshot() {
			t.Errorf("seed %d: %d %d and %d %d", seed, a.Global(), a.Snapshot(), b.Global(), b.Snapshot())
		}
	}
}

// isRefused says whether nothing was to be done: an error or a false, or of many things all refused.
func isRefused(x step, told string) bool {
	word, _, _ := strings.Cut(x.name, " ")
	switch word {
	case "Enter":
		return strings.HasPrefix(told, "0 ")
	case "Leave":
		return told != "0"
	case "Advance":
		return told != "true 0"
	case "Retire":
		return !strings.Contains(told, "0")
	}
	return told == "[]"
}

// P1: every call ends, and none panics.
func TestNothingPanics(t *testing.T) {
	odd := []int{math.MinInt, math.MinInt + 1, -1 << 32, -1 << 31, -4097, -17, -1, 0, 1, 2, 16, 17, 4096, 4097, 1<<31 - 1, 1 << 31, 1<<31 + 1, 1 << 32, math.MaxInt - 1, math.MaxInt}
	for _, workers := range odd {
		for _, every := range odd {
			for _, first := range odd {
				c, e := epoch.New(workers, every, first)
				if (c == nil) != (e != api.OK) {
					t.Fatalf("New of %d, %d, %d: a clock is %t, %d", workers, every, first, c != nil, e)
				}
				if c == nil {
					continue
				}
				for _, n := range odd {
					c.Enter(n)
					c.Retire(n)
					c.Advance()
					c.Free()
					c.Leave(n)
				}
			}
		}
	}
}
