package words_test

import (
	"fmt"
	"math"
	"math/big"
	"math/rand"
	"slices"
	"testing"

	"hopper/api"
	"hopper/words"
)

// model is the chapter's words, written out as plainly as may be: numbers without an end, brought below 2^64 whenever one is written.
type model struct {
	cells []*big.Int
	tasks []*modelTask
	steps int
}

type modelTask struct {
	code  code
	regs  [8]*big.Int
	place int
	stop  bool
}

func modulo(n *big.Int) *big.Int {
	return new(big.Int).Mod(n, new(big.Int).Lsh(big.NewInt(1), 64))
}

func newModel(list [][]api.Instr, cells []uint64) *model {
	m := &model{}
	for _, c := range cells {
		m.cells = append(m.cells, new(big.Int).SetUint64(c))
	}
	for _, c := range list {
		t := &modelTask{code: c}
		for i := range t.regs {
			t.regs[i] = big.NewInt(0)
		}
		m.tasks = append(m.tasks, t)
	}
	return m
}

func (t *modelTask) stopped() bool { return t.stop || t.place == len(t.code) }

// do does one instruction, and tells whether it went to a cell.
func (m *model) do(t *modelTask, in api.Instr) bool {
	a, b, n := t.regs[in.A], t.regs[in.B], big.NewInt(in.N)
	place := t.place + 1
	switch in.Kind {
	case api.ISet:
		t.regs[in.A] = modulo(n)
	case api.IMove:
		t.regs[in.A] = b
	case api.IAdd:
		t.regs[in.A] = modulo(new(big.Int).Add(b, n))
	case api.ILoad:
		t.regs[in.A] = m.cells[in.N]
	case api.IStore:
		m.cells[in.N] = a
	case api.ISwap:
		t.regs[in.A] = big.NewInt(0)
		if m.cells[in.N].Cmp(a) == 0 {
			m.cells[in.N] = b
			t.regs[in.A] = big.NewInt(1)
		}
	case api.IJump:
		if a.Sign() == 0 {
			place = int(in.N)
		}
	case api.IStop:
		t.stop = true
	}
	t.place = place
	return in.Kind == api.ILoad || in.Kind == api.IStore || in.Kind == api.ISwap
}

func (m *model) pick(t *modelTask) {
	if t.stopped() {
		return
	}
	m.steps++
	for done := 0; done < 64 && !t.stopped(); done++ {
		if m.do(t, t.code[t.place]) {
			return
		}
	}
}

func (m *model) report() api.Report {
	x := api.Report{Steps: m.steps}
	for _, c := range m.cells {
		x.Cells = append(x.Cells, c.Uint64())
	}
	for _, t := range m.tasks {
		var all [8]uint64
		for i, r := range t.regs {
			all[i] = r.Uint64()
		}
		x.Regs = append(x.Regs, all)
		x.Done = append(x.Done, t.stopped())
	}
	return x
}

func modelInstr(in api.Instr, length, cells int) bool {
	upto := map[int]int{api.ILoad: cells - 1, api.IStore: cells - 1, api.ISwap: cells - 1, api.IJump: length}
	last, asked := upto[in.Kind]
	switch {
	case in.Kind < api.ISet || in.Kind > api.IStop:
		return false
	case min(in.A, in.B) < 0 || max(in.A, in.B) > 7:
		return false
	case asked:
		return in.N >= 0 && in.N <= int64(last)
	}
	return true
}

func modelCheck(list [][]api.Instr, cells int) (task, at int, e api.Errno) {
	if len(list) > api.MaxItems || cells < 0 || cells > api.MaxItems {
		return 0, 0, api.ErrLong
	}
	for task, c := range list {
		if len(c) > api.MaxItems {
			return task, 0, api.ErrLong
		}
		at := slices.IndexFunc(c, func(in api.Instr) bool { return !modelInstr(in, len(c), cells) })
		if at >= 0 {
			return task, at, api.ErrOp
		}
	}
	return 0, 0, api.OK
}

func modelRun(list [][]api.Instr, cells []uint64, picks []int) (api.Report, api.Errno) {
	if _, _, e := modelCheck(list, len(cells)); e != api.OK {
		return api.Report{}, e
	}
	if len(picks) > api.MaxSteps {
		return api.Report{}, api.ErrLong
	}
	if slices.ContainsFunc(picks, func(p int) bool { return p < 0 || p >= len(list) }) {
		return api.Report{}, api.ErrRange
	}
	m := newModel(list, cells)
	for _, p := range picks {
		m.pick(m.tasks[p])
	}
	return m.report(), api.OK
}

// Drawn inputs.

func randomNumber(r *rand.Rand) int64 {
	if r.Intn(3) > 0 {
		return int64(r.Intn(5)) - 2
	}
	edges := []int64{math.MinInt64, math.MinInt64 + 1, math.MaxInt64, math.MaxInt64 - 1, 1 << 32, -1 << 32}
	return edges[r.Intn(len(edges))]
}

// randomInstr draws one that may be, of cells from first up to last (none, if that is none): mostly of few registers, so that they meet, and seldom a stop.
func randomInstr(r *rand.Rand, length, first, last int) api.Instr {
	in := api.Instr{A: r.Intn(3), B: r.Intn(3), N: randomNumber(r)}
	if r.Intn(10) == 0 {
		in.A, in.B = r.Intn(8), r.Intn(8)
	}
	in.Kind = 1 + r.Intn(7)
	if r.Intn(25) == 0 {
		in.Kind = api.IStop
	}
	switch in.Kind {
	case api.ILoad, api.IStore, api.ISwap:
		if first == last {
			in.Kind = api.IAdd
			return in
		}
		in.N = int64(first + r.Intn(last-first))
	case api.IJump:
		in.N = int64(r.Intn(length + 1))
	}
	return in
}

func randomTask(r *rand.Rand, length, first, last int) code {
	list := make(code, length)
	for i := range list {
		list[i] = randomInstr(r, length, first, last)
	}
	return list
}

func randomCells(r *rand.Rand, count int) []uint64 {
	cells := make([]uint64, count)
	for i := range cells {
		cells[i] = uint64(randomNumber(r))
	}
	return cells
}

func randomPicks(r *rand.Rand, count, tasks int) []int {
	picks := make([]int, count)
	for i := range picks {
		picks[i] = r.Intn(tasks)
	}
	return picks
}

// spoil makes one thing of a task wrong, or leaves it at an edge.
func spoil(r *rand.Rand, list code, cells int) {
	if len(list) == 0 {
		return
	}
	in := &list[r.Intn(len(list))]
	switch r.Intn(4) {
	case 0:
		in.Kind = r.Intn(12) - 1
	case 1:
		in.A = r.Intn(11) - 1
	case 2:
		in.B = r.Intn(11) - 1
	case 3:
		in.N = []int64{-1, 0, int64(cells) - 1, int64(cells), int64(len(list)), int64(len(list)) + 1, randomNumber(r)}[r.Intn(7)]
	}
}

func agree(t *testing.T, seed int64, list [][]api.Instr, cells []uint64, picks []int) {
	t.Helper()
	got, e := words.Run(list, cells, picks)
	want, wantE := modelRun(list, cells, picks)
	if e != wantE || !sameReport(got, want) {
		t.Fatalf("seed %d: %v, cells %v, picks %v:\n%v %d, not\n%v %d", seed, list, cells, picks, got, e, want, wantE)
	}
}

// 3.1 and 3.2, held against the model.

func TestCheckAsTheModel(t *testing.T) {
	for seed := range int64(20000) {
		r := rand.New(rand.NewSource(seed))
		cells := r.Intn(4)
		list := make([][]api.Instr, r.Intn(4))
		for i := range list {
			list[i] = randomTask(r, r.Intn(6), 0, cells)
			if r.Intn(3) == 0 {
				spoil(r, list[i], cells)
			}
		}
		if r.Intn(20) == 0 {
			cells = []int{-1, api.MaxItems, api.MaxItems + 1}[r.Intn(3)]
		}
		got, want := fmt.Sprint(words.Check(list, cells)), fmt.Sprint(modelCheck(list, cells))
		if got != want {
			t.Fatalf("seed %d: %v with %d cells: %s, not %s", seed, list, cells, got, want)
		}
		if cells >= 0 {
			agree(t, seed, list, make([]uint64, cells), nil)
		}
	}
}

func TestRunAsTheModel(t *testing.T) {
	for seed := range int64(20000) {
		r := rand.New(rand.NewSource(seed))
		cells := randomCells(r, r.Intn(4))
		list := make([][]api.Instr, 1+r.Intn(4))
		for i := range list {
			list[i] = randomTask(r, r.Intn(12), 0, len(cells))
		}
		picks := randomPicks(r, r.Intn(40), len(list))
		if r.Intn(20) == 0 && len(picks) > 0 {
			picks[r.Intn(len(picks))] = []int{-1, len(list)}[r.Intn(2)]
		}
		agree(t, seed, list, cells, picks)
	}
}

// Tasks that are longer than a step.
func TestLongTasksAsTheModel(t *testing.T) {
	for seed := range int64(300) {
		r := rand.New(rand.NewSource(seed))
		list := make([][]api.Instr, 2)
		for i := range list {
			list[i] = randomTask(r, 200+r.Intn(200), 0, 2)
			for j := range list[i] {
				// Few accesses and no way back, so that steps end by their length.
				if list[i][j].Kind >= api.ILoad && r.Intn(8) > 0 {
					list[i][j] = add(r.Intn(8), r.Intn(8), randomNumber(r))
				}
			}
		}
		agree(t, seed, list, randomCells(r, 2), randomPicks(r, r.Intn(60), 2))
	}
}

// R7: the same call tells the same.
func TestRunTwice(t *testing.T) {
	for seed := range int64(200) {
		r := rand.New(rand.NewSource(seed))
		list := [][]api.Instr{randomTask(r, 10, 0, 2), randomTask(r, 10, 0, 2)}
		cells, picks := randomCells(r, 2), randomPicks(r, 30, 2)
		first, e := words.Run(list, cells, picks)
		second, again := words.Run(list, cells, picks)
		if e != again || !sameReport(first, second) {
			t.Fatalf("seed %d: %v %d and %v %d", seed, first, e, second, again)
		}
	}
}

// 3.3: tasks that use no cell in common do as if each was alone.

// each is how many cells a task has for itself.
const each = 2

func TestAsIfAlone(t *testing.T) {
	for seed := range int64(2000) {
		r := rand.New(rand.NewSource(seed))
		list := make([][]api.Instr, 2+r.Intn(3))
		for i := range list {
			list[i] = randomTask(r, r.Intn(14), i*each, i*each+each)
		}
		cells := randomCells(r, each*len(list))
		picks := randomPicks(r, r.Intn(80), len(list))
		all, e := words.Run(list, cells, picks)
		if e != api.OK {
			t.Fatalf("seed %d: %d", seed, e)
		}
		steps := 0
		for i := range list {
			steps += asIfAlone(t, seed, list, cells, picks, i, all)
		}
		if steps != all.Steps {
			t.Errorf("seed %d: %d steps, and %d alone", seed, all.Steps, steps)
		}
	}
}

// asIfAlone runs one of the tasks with its own picks, and looks that the cells that it uses and all of its own are as when all ran. It answers the steps.
func asIfAlone(t *testing.T, seed int64, list [][]api.Instr, cells []uint64, picks []int, which int, all api.Report) int {
	t.Helper()
	own := 0
	for _, p := range picks {
		if p == which {
			own++
		}
	}
	x, e := words.Run(list[which:which+1], cells, make([]int, own))
	if e != api.OK || x.Regs[0] != all.Regs[which] || x.Done[0] != all.Done[which] {
		t.Fatalf("seed %d: task %d alone: %v %d, with the others: %v", seed, which, x, e, all)
	}
	for cell := range cells {
		want := cells[cell]
		if cell/each == which {
			want = all.Cells[cell]
		}
		if x.Cells[cell] != want {
			t.Errorf("seed %d: task %d alone: cell %d is %d, not %d", seed, which, cell, x.Cells[cell], want)
		}
	}
	return x.Steps
}

// 3.3: a cell that tasks raise, each by loading it and swapping until that succeeds.

func raisers(count int) [][]api.Instr {
	return slices.Repeat(tasks(code{load(0, 0), add(1, 0, 1), swap(0, 1, 0), jump(0, 0)}), count)
}

func count(of []bool) (n uint64) {
	for _, b := range of {
		if b {
			n++
		}
	}
	return n
}

func TestRaisedOnceForEach(t *testing.T) {
	const begin = 100 // so that no number of the cell is what a swap answers
	for seed := range int64(3000) {
		r := rand.New(rand.NewSource(seed))
		list := raisers(1 + r.Intn(6))
		picks := randomPicks(r, r.Intn(12*len(list)), len(list))
		x, e := words.Run(list, []uint64{begin}, picks)
		if e != api.OK {
			t.Fatalf("seed %d: %d", seed, e)
		}
		swapped := make([]bool, len(list))
		for i := range list {
			swapped[i] = x.Regs[i][0] == 1
			if x.Done[i] && !swapped[i] {
				t.Errorf("seed %d: task %d has stopped and raised nothing: %v", seed, i, x)
			}
		}
		// A task that has raised the cell stops by a step of its own: it may be one short of that.
		if x.Cells[0]-begin != count(swapped) {
			t.Errorf("seed %d: picks %v: raised by %d, and %d have raised it", seed, picks, x.Cells[0]-begin, count(swapped))
		}
	}
}

func TestRaisedByAll(t *testing.T) {
	for seed := range int64(500) {
		r := rand.New(rand.NewSource(seed))
		list := raisers(1 + r.Intn(8))
		picks := randomPicks(r, r.Intn(12*len(list)), len(list))
		// Then each alone, long enough to load, fail, load, swap and stop.
		for i := range list {
			picks = append(picks, i, i, i, i, i)
		}
		begin := uint64(randomNumber(r))
		x, e := words.Run(list, []uint64{begin}, picks)
		if e != api.OK || count(x.Done) != uint64(len(list)) || x.Cells[0]-begin != uint64(len(list)) {
			t.Fatalf("seed %d: %d raise %d, picks %v: %v %d", seed, len(list), begin, picks, x, e)
		}
	}
}

// Those that load and store without a look lose some: it is the swap that keeps them.
func TestRaisedWithoutSwap(t *testing.T) {
	blind := code{load(0, 0), add(0, 0, 1), store(0, 0)}
	run(t, tasks(blind, blind), []uint64{0}, []int{0, 1, 0, 1}, api.Report{
		Cells: []uint64{1}, Regs: [][8]uint64{regs(1), regs(1)}, Done: []bool{true, true}, Steps: 4})
}
