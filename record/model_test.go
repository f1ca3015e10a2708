package record_test

import (
	"fmt"
	"math"
	"math/rand"
	"strings"
	"testing"

	"hopper/api"
	"hopper/record"
	"hopper/value"
)

// model is the chapter's words, written out as plainly as may be: it keeps the parts of words, not the words, and the oldest version first.
type model struct {
	list   []past
	locked bool
}

type past struct {
	epoch, seq uint64
	r          row
	gone       bool
}

func (s past) number() uint64 { return s.epoch*8388608 + s.seq*8 }

// modelVersion looks at a number, then at a row.
func modelVersion(n uint64, r row, gone bool) (past, api.Errno) {
	s := past{epoch: n / 8388608, seq: n % 8388608 / 8, gone: gone}
	if s.epoch > 2147483648 || n%8 != 0 {
		return past{}, api.ErrTid
	}
	if _, e := value.Check(r); e != api.OK {
		return past{}, e
	}
	if !gone {
		s.r = append(row{}, r...)
	}
	return s, api.OK
}

func newModel(n uint64, r row, gone bool) (*model, api.Errno) {
	s, e := modelVersion(n, r, gone)
	if e != api.OK {
		return nil, e
	}
	return &model{list: []past{s}}, api.OK
}

func (m *model) newest() past { return m.list[len(m.list)-1] }

func (m *model) Word() uint64 {
	w := m.newest().number() + 4
	if m.newest().gone {
		w += 2
	}
	if m.locked {
		w++
	}
	return w
}

func (m *model) Lock() bool {
	was := m.locked
	m.locked = true
	return !was
}

func (m *model) Unlock() api.Errno {
	if !m.locked {
		return api.ErrLocked
	}
	m.locked = false
	return api.OK
}

func (m *model) Read() (row, uint64, api.Errno) {
	if m.locked {
		return nil, 0, api.ErrLocked
	}
	return m.newest().r, m.Word(), api.OK
}

func (m *model) Install(n uint64, r row, gone, keep bool) api.Errno {
	if !m.locked {
		return api.ErrLocked
	}
	s, e := modelVersion(n, r, gone)
	if e != api.OK {
		return e
	}
	was := m.newest()
	if s.epoch < was.epoch || s.epoch == was.epoch && s.seq <= was.seq {
		return api.ErrOlder
	}
	if !keep {
		m.list = m.list[:len(m.list)-1]
	}
	m.list = append(m.list, s)
	return api.OK
}

// place answers where the newest version of an epoch up to this one stands, or -1.
func (m *model) place(epoch int) int {
	at := -1
	for i, s := range m.list {
		if s.epoch <= uint64(epoch) {
			at = i
		}
	}
	return at
}

func (m *model) At(epoch int) (row, bool, api.Errno) {
	if epoch < 0 || epoch > 2147483648 {
		return nil, false, api.ErrRange
	}
	i := m.place(epoch)
	if i == -1 || m.list[i].gone {
		return nil, false, api.OK
	}
	return m.list[i].r, true, api.OK
}

func (m *model) Prune(epoch int) (int, api.Errno) {
	if epoch < 0 || epoch > 2147483648 {
		return 0, api.ErrRange
	}
	i := m.place(epoch)
	if i == -1 {
		return 0, api.OK
	}
	m.list = m.list[i:]
	return i, api.OK
}

func (m *model) Versions() []uint64 {
	var list []uint64
	for i := range m.list {
		list = append(list, m.list[len(m.list)-1-i].number())
	}
	return list
}

// keeper is what a script runs on: the package's record, or the model.
type keeper interface {
	Word() uint64
	Lock() bool
	Unlock() api.Errno
	Read() (row, uint64, api.Errno)
	Install(n uint64, r row, gone, keep bool) api.Errno
	At(epoch int) (row, bool, api.Errno)
	Prune(epoch int) (int, api.Errno)
	Versions() []uint64
}

// step is one call of a script, and tells all that the call answered.
type step struct {
	name string
	do   func(x keeper) string
}

// told writes a row so that no two rows are written alike.
func told(r row) string {
	var out strings.Builder
	for _, v := range r {
		fmt.Fprintf(&out, "(%d %d %x %x %q)", v.Kind, v.N, math.Float64bits(real(v.C)), math.Float64bits(imag(v.C)), v.S)
	}
	return out.String()
}

func locking() step {
	return step{"Lock", func(x keeper) string { return fmt.Sprint(x.Lock()) }}
}

func unlocking() step {
	return step{"Unlock", func(x keeper) string { return fmt.Sprint(x.Unlock()) }}
}

func reading() step {
	return step{"Read", func(x keeper) string {
		r, w, e := x.Read()
		return fmt.Sprint(e, " ", w, told(r))
	}}
}

func installing(n uint64, r row, gone, keep bool) step {
	return step{fmt.Sprintf("Install %d %.100s %t %t", n, told(r), gone, keep), func(x keeper) string {
		return fmt.Sprint(x.Install(n, r, gone, keep))
	}}
}

func asking(epoch int) step {
	return step{fmt.Sprint("At ", epoch), func(x keeper) string {
		r, there, e := x.At(epoch)
		return fmt.Sprint(e, " ", there, told(r))
	}}
}

func pruning(epoch int) step {
	return step{fmt.Sprint("Prune ", epoch), func(x keeper) string {
		n, e := x.Prune(epoch)
		return fmt.Sprint(e, " ", n)
	}}
}

// Made once: they are drawn from often.
var (
	rowsToDraw    = badRows()
	numbersToDraw = noNumbers()
)

func randomRow(r *rand.Rand) row {
	if r.Intn(20) == 0 {
		return rowsToDraw[r.Intn(len(rowsToDraw))].r
	}
	list := make(row, r.Intn(4))
	for i := range list {
		list[i] = kinds()[r.Intn(len(kinds()))]
		if list[i].Kind == api.VInt {
			list[i].N = int64(r.Intn(1000))
		}
	}
	return list
}

// randomNumber is mostly somewhat above a number, at times just it, below it, of another place, or of none.
func randomNumber(r *rand.Rand, near uint64) uint64 {
	switch r.Intn(12) {
	case 0:
		return near
	case 1:
		return near - 8
	case 2:
		return near + uint64(r.Intn(8))
	case 3:
		if r.Intn(10) == 0 {
			return r.Uint64()
		}
		return numbersToDraw[r.Intn(len(numbersToDraw))]
	case 4:
		return near - number(uint64(r.Intn(3)), uint64(r.Intn(3)))
	case 5, 6:
		return near + 8
	}
	return near + number(uint64(r.Intn(3)), uint64(r.Intn(3)))
}

func randomEpoch(r *rand.Rand, near uint64) int {
	if r.Intn(15) == 0 {
		return outside()[r.Intn(len(outside()))]
	}
	if r.Intn(15) == 0 {
		return []int{0, 1, api.MaxEpoch - 1, api.MaxEpoch}[r.Intn(4)]
	}
	return int(near>>23) + 2 - r.Intn(12)
}

// randomStep hangs on the model alone: what it has as its newest version, and whether it is locked.
func randomStep(r *rand.Rand, m *model) step {
	near := m.newest().number()
	switch r.Intn(12) {
	case 0, 1:
		return locking()
	case 2:
		return unlocking()
	case 3:
		return reading()
	case 4, 5:
		return asking(randomEpoch(r, near))
	case 6:
		return pruning(randomEpoch(r, near) - r.Intn(8))
	}
	return installing(randomNumber(r, near), randomRow(r), r.Intn(4) == 0, r.Intn(5) > 0)
}

func randomFirst(r *rand.Rand) uint64 {
	switch r.Intn(4) {
	case 0:
		return number(uint64(r.Intn(4)), uint64(r.Intn(4)))
	case 1:
		return number(api.MaxEpoch-uint64(r.Intn(20)), api.MaxSeq-uint64(r.Intn(4)))
	case 2:
		return number(uint64(r.Intn(api.MaxEpoch)), uint64(r.Intn(api.MaxSeq)))
	}
	return numbers()[r.Intn(len(numbers()))]
}

// drawn is how often each answer was drawn: a script that never meets an edge shows nothing of it.
type drawn map[string]int

func (d drawn) note(name, told string) {
	word, _, _ := strings.Cut(name, " ")
	switch word {
	case "Read":
		told, _, _ = strings.Cut(told, " ")
	case "At":
		told, _, _ = strings.Cut(told, "(")
	case "Prune":
		if told != "0 0" && !strings.HasPrefix(told, "1") {
			told = "some"
		}
	}
	d[word+" "+told]++
}

func (d drawn) enough(t *testing.T, names []string, least int) {
	t.Helper()
	for _, name := range names {
		if d[name] < least {
			t.Errorf("%s: only drawn %d times", name, d[name])
		}
	}
}

// together runs a script on a record and a model, step by step, and fails where they part.
func together(t *testing.T, r *rand.Rand, steps int, d drawn) {
	t.Helper()
	n, first, gone := randomFirst(r), of(0), r.Intn(4) == 0
	x := fresh(t, n, first, gone)
	m, _ := newModel(n, first, gone)
	for i := range steps {
		s := randomStep(r, m)
		got, want := s.do(x), s.do(m)
		if got != want || x.Word() != m.Word() || fmt.Sprint(x.Versions()) != fmt.Sprint(m.Versions()) {
			t.Fatalf("New %d, step %d, %s: %.300s (%d, %d), not %.300s (%d, %d)", n, i, s.name, got, x.Word(), x.Versions(), want, m.Word(), m.Versions())
		}
		d.note(s.name, got)
	}
}

func TestLikeTheModel(t *testing.T) {
	d := drawn{}
	for seed := range int64(1500) {
		together(t, rand.New(rand.NewSource(seed)), 200, d)
	}
	d.enough(t, []string{"Lock true", "Lock false", "Unlock 0", "Unlock 110", "Read 0", "Read 110",
		"Install 0", "Install 110", "Install 90", "Install 40", "Install 111", "At 0 true", "At 0 false", "At 1 false", "Prune 0 0", "Prune 1 0", "Prune some"}, 1000)
	d.enough(t, []string{"Install 2"}, 100)
}

func TestNewLikeTheModel(t *testing.T) {
	d := drawn{}
	for seed := range int64(20000) {
		r := rand.New(rand.NewSource(seed))
		n, first, gone := randomNumber(r, randomFirst(r)), randomRow(r), r.Intn(2) == 0
		x, e := record.New(n, first, gone)
		m, want := newModel(n, first, gone)
		if e != want || (x == nil) != (m == nil) {
			t.Fatalf("New of %d, %.200s, %t: a record is %t, %d, not %d", n, told(first), gone, x != nil, e, want)
		}
		d.note("New", fmt.Sprint(e))
		if x == nil {
			continue
		}
		for _, s := range []step{reading(), asking(0), asking(int(n >> 23)), asking(int(n>>23) - 1), asking(api.MaxEpoch), locking(), unlocking(), unlocking()} {
			if got, want := s.do(x), s.do(m); got != want || x.Word() != m.Word() {
				t.Fatalf("New of %d, %.200s, %t, %s: %s, not %s", n, told(first), gone, s.name, got, want)
			}
		}
	}
	d.enough(t, []string{"New 0", "New 90", "New 40"}, 500)
	d.enough(t, []string{"New 2"}, 50)
}

// look tells what there is at each of the first epochs.
func look(x *record.Record, epochs int) []string {
	var list []string
	for epoch := range epochs {
		r, there, e := x.At(epoch)
		list = append(list, fmt.Sprint(e, there, told(r)))
	}
	return list
}

// follower installs versions that are kept, and prunes; what it was told of epochs, and with words, has to stay.
type follower struct {
	x     *record.Record
	n     uint64
	rows  map[uint64]string // word: the row that was read with it
	again int               // how often a word was read that had been read
	seen  int               // how often what is told of an epoch was held against what had been
}

const lastLooked = 40

// install leaves all as it was told of the epochs below that of the new version.
func (f *follower) install(t *testing.T, r *rand.Rand) {
	t.Helper()
	before := look(f.x, lastLooked)
	f.n += number(uint64(r.Intn(3)), uint64(1+r.Intn(3)))
	f.x.Lock()
	install(t, f.x, f.n, randomOwnRow(r), r.Intn(4) == 0, true, api.OK)
	f.same(t, before, 0, int(f.n>>23))
	if r.Intn(3) > 0 {
		f.x.Unlock()
	}
}

// prune leaves all as it was told of its epoch, and of those above it.
func (f *follower) prune(t *testing.T, r *rand.Rand) {
	t.Helper()
	before, w := look(f.x, lastLooked), f.x.Word()
	epoch := max(0, int(f.n>>23)+2-r.Intn(12))
	if _, e := f.x.Prune(epoch); e != api.OK {
		t.Errorf("Prune %d: %d", epoch, e)
	}
	word(t, f.x, w)
	f.same(t, before, epoch, lastLooked)
}

func (f *follower) same(t *testing.T, before []string, from, to int) {
	t.Helper()
	now := look(f.x, lastLooked)
	for epoch := from; epoch < min(to, lastLooked); epoch++ {
		if now[epoch] != before[epoch] {
			t.Errorf("the epoch %d: %s, not %s", epoch, now[epoch], before[epoch])
		}
		f.seen++
	}
}

func (f *follower) read(t *testing.T) {
	t.Helper()
	r, w, e := f.x.Read()
	if e != api.OK {
		return
	}
	was, had := f.rows[w]
	if had && was != told(r) {
		t.Errorf("the word %d was read with %s and with %s", w, was, told(r))
	}
	if had {
		f.again++
	}
	f.rows[w] = told(r)
}

// tryOlder hands in what is refused: no word that was read may come to mean another row by it.
func (f *follower) tryOlder(t *testing.T, r *rand.Rand) {
	t.Helper()
	before := look(f.x, lastLooked)
	if e := f.x.Install(f.n-min(f.n, 8*uint64(r.Intn(4))), randomOwnRow(r), r.Intn(2) == 0, true); e == api.OK {
		t.Errorf("a version that is not newer is installed")
	}
	f.same(t, before, 0, lastLooked)
}

// randomOwnRow has a number that hardly any other row has.
func randomOwnRow(r *rand.Rand) row { return of(r.Int63()) }

// 11.5: what follows.
func TestWhatFollows(t *testing.T) {
	again, seen := 0, 0
	for seed := range int64(400) {
		r := rand.New(rand.NewSource(seed))
		n := number(uint64(r.Intn(5)), uint64(r.Intn(5)))
		f := &follower{x: fresh(t, n, randomOwnRow(r), r.Intn(4) == 0), n: n, rows: map[uint64]string{}}
		for range 60 {
			switch r.Intn(6) {
			case 0, 1:
				f.install(t, r)
			case 2:
				f.prune(t, r)
			case 3:
				f.tryOlder(t, r)
			case 4:
				f.x.Lock()
				f.x.Unlock()
				f.read(t)
			case 5:
				f.read(t)
			}
		}
		again += f.again
		seen += f.seen
	}
	if again < 1000 || seen < 10000 {
		t.Errorf("only %d words were read again, and %d epochs held against what had been", again, seen)
	}
}

// P1: every call ends and none panics.
func TestNothingPanics(t *testing.T) {
	oddEpochs := append(outside(), 0, 1, 2, api.MaxEpoch-1, api.MaxEpoch)
	oddRows := append(goodRows(), nulls(33), row{{Kind: 9}}, row{{Kind: api.VText, C: complex(math.NaN(), math.NaN())}})
	oddNumbers := append(numbers(), noNumbers()...)
	for i, n := range oddNumbers {
		for _, r := range oddRows {
			x, e := record.New(n, r, i%2 == 0)
			if (x == nil) != (e != api.OK) {
				t.Fatalf("New of %d, %s: a record is %t, %d", n, short(r), x != nil, e)
			}
			if x == nil {
				continue
			}
			for j, other := range oddNumbers {
				x.Lock()
				x.Install(other, oddRows[j%len(oddRows)], j%3 == 0, j%2 == 0)
				x.Unlock()
				x.Read()
				x.At(oddEpochs[j%len(oddEpochs)])
				x.Prune(oddEpochs[(j+i)%len(oddEpochs)])
			}
		}
	}
}
