package words_test

import (
	"fmt"
	"math"
	"slices"
	"testing"

	"hopper/api"
	"hopper/words"
)

type code = []api.Instr

func set(a int, n int64) api.Instr         { return api.Instr{Kind: api.ISet, A: a, N: n} }
func move(a, b int) api.Instr              { return api.Instr{Kind: api.IMove, A: a, B: b} }
func add(a, b int, n int64) api.Instr      { return api.Instr{Kind: api.IAdd, A: a, B: b, N: n} }
func load(a int, cell int64) api.Instr     { return api.Instr{Kind: api.ILoad, A: a, N: cell} }
func store(a int, cell int64) api.Instr    { return api.Instr{Kind: api.IStore, A: a, N: cell} }
func swap(a, b int, cell int64) api.Instr  { return api.Instr{Kind: api.ISwap, A: a, B: b, N: cell} }
func jump(a int, place int64) api.Instr    { return api.Instr{Kind: api.IJump, A: a, N: place} }
func stop() api.Instr                      { return api.Instr{Kind: api.IStop} }
func tasks(list ...code) [][]api.Instr     { return list }
func many(n int, in api.Instr) []api.Instr { return slices.Repeat(code{in}, n) }

func regs(first ...uint64) (all [8]uint64) {
	copy(all[:], first)
	return all
}

func sameReport(a, b api.Report) bool {
	return slices.Equal(a.Cells, b.Cells) && slices.Equal(a.Regs, b.Regs) && slices.Equal(a.Done, b.Done) && a.Steps == b.Steps
}

func run(t *testing.T, list [][]api.Instr, cells []uint64, picks []int, want api.Report) {
	t.Helper()
	got, e := words.Run(list, cells, picks)
	if e != api.OK || !sameReport(got, want) {
		t.Errorf("%v, cells %v, picks %v:\n%v %d, not\n%v", list, cells, picks, got, e, want)
	}
}

// alone runs one task with one cell.
func alone(t *testing.T, list code, cell uint64, picks int, wantCell uint64, wantRegs [8]uint64, done bool, steps int) {
	t.Helper()
	run(t, tasks(list), []uint64{cell}, make([]int, picks),
		api.Report{Cells: []uint64{wantCell}, Regs: [][8]uint64{wantRegs}, Done: []bool{done}, Steps: steps})
}

// refused looks that Run answers an error and nothing beside it.
func refused(t *testing.T, name string, list [][]api.Instr, cells []uint64, picks []int, want api.Errno) {
	t.Helper()
	got, e := words.Run(list, cells, picks)
	if e != want || !sameReport(got, api.Report{}) {
		t.Errorf("%s: %v %d, not %d", name, got, e, want)
	}
}

func check(t *testing.T, name string, list [][]api.Instr, cells, task, at int, want api.Errno) {
	t.Helper()
	if gotTask, gotAt, e := words.Check(list, cells); gotTask != task || gotAt != at || e != want {
		t.Errorf("%s: %d %d %d, not %d %d %d", name, gotTask, gotAt, e, task, at, want)
	}
}

// may looks whether an instruction may be, by Check and by Run, in lists of three instructions, behind others that may.
func may(t *testing.T, in api.Instr, cells int, ok bool) {
	t.Helper()
	list := tasks(nil, code{stop(), set(0, 1)}, code{stop(), in, stop()}, many(3, in))
	name := fmt.Sprint(in, " with ", cells, " cells")
	if !ok {
		check(t, name, list, cells, 2, 1, api.ErrOp)
		refused(t, name, list, make([]uint64, cells), nil, api.ErrOp)
		return
	}
	check(t, name, list, cells, 0, 0, api.OK)
	if _, e := words.Run(list, make([]uint64, cells), nil); e != api.OK {
		t.Errorf("run of %s: %d", name, e)
	}
}

// 3.1: how many.

func TestCheckNothing(t *testing.T) {
	check(t, "no task", nil, 0, 0, 0, api.OK)
	check(t, "an empty list", tasks(), 0, 0, 0, api.OK)
	check(t, "no instruction", tasks(nil), 0, 0, 0, api.OK)
	check(t, "no instruction twice", tasks(code{}, nil), 5, 0, 0, api.OK)
}

func TestCheckHowManyTasks(t *testing.T) {
	list := make([][]api.Instr, api.MaxItems)
	check(t, "as many as may be", list, 0, 0, 0, api.OK)
	list[api.MaxItems-1] = code{stop(), {}}
	check(t, "the last of them", list, 0, api.MaxItems-1, 1, api.ErrOp)
	check(t, "one more", append(list, nil), 0, 0, 0, api.ErrLong)
	list[0] = many(api.MaxItems+1, stop())
	check(t, "one more, and a task too long", append(list, nil), 0, 0, 0, api.ErrLong)
}

func TestCheckHowManyCells(t *testing.T) {
	wrong := tasks(nil, code{stop(), {}})
	for _, cells := range []int{math.MinInt, -api.MaxItems, -1, api.MaxItems + 1, math.MaxInt} {
		check(t, "no task", nil, cells, 0, 0, api.ErrLong)
		check(t, "a task", tasks(code{stop()}), cells, 0, 0, api.ErrLong)
		check(t, "a task that may not be", wrong, cells, 0, 0, api.ErrLong)
	}
	for _, cells := range []int{0, 1, api.MaxItems - 1, api.MaxItems} {
		check(t, "no task", nil, cells, 0, 0, api.OK)
		check(t, "a task that may not be", wrong, cells, 1, 1, api.ErrOp)
	}
}

func TestCheckHowManyInstructions(t *testing.T) {
	most := many(api.MaxItems, set(7, 1))
	check(t, "as many as may be", tasks(most, nil, most), 0, 0, 0, api.OK)
	check(t, "one more", tasks(append(most, stop())), 0, 0, 0, api.ErrLong)
	check(t, "one more in the third", tasks(most, nil, append(most, stop())), 0, 2, 0, api.ErrLong)
	check(t, "one more, and a wrong one", tasks(nil, append(most, api.Instr{})), 0, 1, 0, api.ErrLong)
	check(t, "too many wrong ones", tasks(nil, nil, many(api.MaxItems+1, api.Instr{})), 0, 2, 0, api.ErrLong)
	last := slices.Clone(most)
	last[api.MaxItems-1].Kind = 9
	check(t, "the last one wrong", tasks(most, last), 0, 1, api.MaxItems-1, api.ErrOp)
}

// 3.1: which instructions.

func TestCheckKinds(t *testing.T) {
	for kind := 1; kind <= 8; kind++ {
		may(t, api.Instr{Kind: kind}, 1, true)
	}
	for _, kind := range []int{math.MinInt, -8, -1, 0, 9, 10, 256 + 1, math.MaxInt} {
		may(t, api.Instr{Kind: kind}, 1, false)
	}
}

// Registers are looked at in all kinds, also where an instruction has no use for them.
func TestCheckRegisters(t *testing.T) {
	for kind := 1; kind <= 8; kind++ {
		for r := range 8 {
			may(t, api.Instr{Kind: kind, A: r, B: 7 - r}, 1, true)
		}
		for _, r := range []int{math.MinInt, -8, -1, 8, 9, 256, math.MaxInt} {
			may(t, api.Instr{Kind: kind, A: r}, 1, false)
			may(t, api.Instr{Kind: kind, B: r}, 1, false)
			may(t, api.Instr{Kind: kind, A: r, B: r}, 1, false)
		}
	}
}

func TestCheckCells(t *testing.T) {
	for _, kind := range []int{api.ILoad, api.IStore, api.ISwap} {
		for _, cells := range []int{0, 1, 2, 7, api.MaxItems} {
			for _, n := range []int64{math.MinInt64, -1 << 32, -1, int64(cells), int64(cells) + 1, 1 << 32, math.MaxInt64} {
				may(t, api.Instr{Kind: kind, N: n}, cells, false)
			}
			if cells > 0 {
				may(t, api.Instr{Kind: kind, N: 0}, cells, true)
				may(t, api.Instr{Kind: kind, N: int64(cells) - 1}, cells, true)
			}
		}
	}
}

func TestCheckPlaces(t *testing.T) {
	for _, n := range []int64{0, 1, 2, 3} { // of three instructions
		may(t, jump(0, n), 0, true)
	}
	for _, n := range []int64{math.MinInt64, -1, 4, 5, 1 << 32, math.MaxInt64} {
		may(t, jump(0, n), 9, false)
	}
	for _, length := range []int{1, 2, 5, api.MaxItems} {
		list := many(length, stop())
		list[0] = jump(3, int64(length))
		check(t, "a jump behind the end", tasks(nil, list), 0, 0, 0, api.OK)
		list[0].N++
		check(t, "a jump beyond that", tasks(nil, list), api.MaxItems, 1, 0, api.ErrOp)
	}
}

func TestCheckOtherNumbers(t *testing.T) {
	for _, kind := range []int{api.ISet, api.IMove, api.IAdd, api.IStop} {
		for _, n := range []int64{math.MinInt64, -1, 0, 1, 99, math.MaxInt64} {
			may(t, api.Instr{Kind: kind, N: n}, 0, true)
		}
	}
}

func TestCheckTheFirst(t *testing.T) {
	long := many(api.MaxItems+1, stop())
	bad := code{stop(), stop(), {}, {}}
	check(t, "two instructions of one task", tasks(nil, bad), 0, 1, 2, api.ErrOp)
	check(t, "a bad one ahead of a long one", tasks(bad, long), 0, 0, 2, api.ErrOp)
	check(t, "a long one ahead of a bad one", tasks(nil, long, bad), 0, 1, 0, api.ErrLong)
	check(t, "two bad ones", tasks(nil, bad, code{{}}), 0, 1, 2, api.ErrOp)
	check(t, "a bad one behind the stop", tasks(code{stop(), load(0, 0)}), 0, 0, 1, api.ErrOp)
}

// 3.2: what Run refuses.

func TestRunHowMany(t *testing.T) {
	most := many(api.MaxItems, stop())
	full := make([][]api.Instr, api.MaxItems)
	cells := make([]uint64, api.MaxItems)
	cells[api.MaxItems-1] = 9
	full[api.MaxItems-1] = code{load(7, api.MaxItems-1)}
	x, e := words.Run(full, cells, []int{0, api.MaxItems - 1})
	if e != api.OK || x.Steps != 1 || x.Regs[api.MaxItems-1][7] != 9 || len(x.Regs) != api.MaxItems || len(x.Done) != api.MaxItems || !slices.Equal(x.Cells, cells) {
		t.Errorf("as many as may be: %d, %d steps", e, x.Steps)
	}
	refused(t, "one task more", append(full, nil), nil, nil, api.ErrLong)
	refused(t, "one cell more", nil, append(cells, 0), nil, api.ErrLong)
	refused(t, "one instruction more", tasks(nil, append(most, stop())), nil, nil, api.ErrLong)
	run(t, tasks(most), nil, []int{0}, api.Report{Regs: make([][8]uint64, 1), Done: []bool{true}, Steps: 1})
}

func TestRunHowManyPicks(t *testing.T) {
	picks := make([]int, api.MaxSteps+1)
	circle := tasks(code{add(0, 0, 1), jump(1, 0)})
	run(t, circle, nil, picks[:api.MaxSteps], api.Report{Regs: [][8]uint64{regs(32 * api.MaxSteps)}, Done: []bool{false}, Steps: api.MaxSteps})
	run(t, tasks(nil), nil, picks[:api.MaxSteps], api.Report{Regs: make([][8]uint64, 1), Done: []bool{true}})
	refused(t, "one pick more", circle, nil, picks, api.ErrLong)
	refused(t, "one pick more of a task without instructions", tasks(nil), nil, picks, api.ErrLong)
	refused(t, "one pick more of no task", nil, nil, picks, api.ErrLong)
}

func TestRunPicksOfNoTask(t *testing.T) {
	for _, count := range []int{0, 1, 2, 5} {
		list := make([][]api.Instr, count)
		for _, pick := range []int{math.MinInt, -2, -1, count, count + 1, math.MaxInt} {
			refused(t, "alone", list, nil, []int{pick}, api.ErrRange)
			if count > 0 {
				refused(t, "behind others", list, nil, []int{0, count - 1, pick}, api.ErrRange)
				refused(t, "ahead of others", list, nil, []int{pick, count - 1}, api.ErrRange)
			}
		}
		for pick := range count {
			if _, e := words.Run(list, nil, []int{pick}); e != api.OK {
				t.Errorf("pick %d of %d: %d", pick, count, e)
			}
		}
	}
}

func TestRunOrderOfErrors(t *testing.T) {
	long := many(api.MaxItems+1, stop())
	bad := code{{}}
	cells := make([]uint64, api.MaxItems+1)
	picks := slices.Repeat([]int{-1}, api.MaxSteps+1)
	refused(t, "cells ahead of tasks", tasks(bad), cells, nil, api.ErrLong)
	refused(t, "a bad task ahead of a long one", tasks(bad, long), nil, nil, api.ErrOp)
	refused(t, "a long task ahead of a bad one", tasks(long, bad), nil, nil, api.ErrLong)
	refused(t, "tasks ahead of too many picks", tasks(bad), nil, picks, api.ErrOp)
	refused(t, "tasks ahead of a pick", tasks(bad), nil, []int{1}, api.ErrOp)
	refused(t, "cells ahead of a pick", tasks(nil), cells, []int{1}, api.ErrLong)
	refused(t, "too many picks ahead of one of them", tasks(nil), nil, picks, api.ErrLong)
	refused(t, "a pick", tasks(nil), nil, picks[1:], api.ErrRange)
}

// 3.2: nothing, and little.

func TestRunNothing(t *testing.T) {
	run(t, nil, nil, nil, api.Report{})
	run(t, tasks(), []uint64{}, []int{}, api.Report{})
	run(t, nil, []uint64{3, 4}, nil, api.Report{Cells: []uint64{3, 4}})
	run(t, tasks(code{store(0, 0)}), []uint64{7}, nil, api.Report{Cells: []uint64{7}, Regs: make([][8]uint64, 1), Done: []bool{false}})
}

func TestRunNoInstruction(t *testing.T) {
	want := api.Report{Regs: make([][8]uint64, 2), Done: []bool{true, true}}
	run(t, tasks(nil, code{}), nil, nil, want)
	run(t, tasks(nil, code{}), nil, []int{0, 1, 1, 0}, want)
}

// 3.2: what each instruction does, and the place then.

func TestSet(t *testing.T) {
	alone(t, code{set(0, 5)}, 1, 1, 1, regs(5), true, 1)
	alone(t, code{set(7, 5), set(7, 6), set(3, 0)}, 1, 1, 1, regs(0, 0, 0, 0, 0, 0, 0, 6), true, 1)
	alone(t, code{set(0, -1), set(1, math.MinInt64), set(2, math.MaxInt64), set(3, -5)}, 0, 1, 0,
		regs(1<<64-1, 1<<63, 1<<63-1, 1<<64-5), true, 1)
}

func TestMove(t *testing.T) {
	alone(t, code{set(1, 5), set(0, 9), {Kind: api.IMove, A: 0, B: 1, N: 77}}, 0, 1, 0, regs(5, 5), true, 1)
	alone(t, code{set(1, 5), move(1, 1), move(7, 1), move(2, 6)}, 0, 1, 0, regs(0, 5, 0, 0, 0, 0, 0, 5), true, 1)
	alone(t, code{set(1, 5), move(1, 0)}, 0, 1, 0, regs(), true, 1)
}

func TestAdd(t *testing.T) {
	alone(t, code{set(1, 5), set(0, 100), add(0, 1, 3)}, 0, 1, 0, regs(8, 5), true, 1)
	alone(t, code{set(1, 5), add(1, 1, 3), add(1, 1, -8)}, 0, 1, 0, regs(), true, 1)
	alone(t, code{set(1, 5), add(2, 1, 0), add(3, 1, -6), add(4, 3, 1), add(5, 3, 3)}, 0, 1, 0,
		regs(0, 5, 5, 1<<64-1, 0, 2), true, 1)
	alone(t, code{set(0, math.MaxInt64), add(1, 0, math.MaxInt64), add(2, 1, math.MaxInt64)}, 0, 1, 0,
		regs(1<<63-1, 1<<64-2, 1<<63-3), true, 1)
	alone(t, code{set(0, math.MinInt64), add(1, 0, math.MinInt64), add(2, 0, -1), add(3, 1, math.MinInt64)}, 0, 1, 0,
		regs(1<<63, 0, 1<<63-1, 1<<63), true, 1)
}

func TestLoad(t *testing.T) {
	run(t, tasks(code{set(1, 9), load(1, 0), load(7, 2)}), []uint64{1<<64 - 1, 5, 1 << 63}, []int{0, 0}, api.Report{
		Cells: []uint64{1<<64 - 1, 5, 1 << 63}, Regs: [][8]uint64{regs(0, 1<<64-1, 0, 0, 0, 0, 0, 1<<63)}, Done: []bool{true}, Steps: 2})
	alone(t, code{{Kind: api.ILoad, A: 2, B: 3}}, 6, 1, 6, regs(0, 0, 6), true, 1)
}

func TestStore(t *testing.T) {
	run(t, tasks(code{set(1, -1), set(7, 8), store(1, 2), store(7, 0), store(0, 3)}), []uint64{1, 2, 3, 4}, []int{0, 0, 0}, api.Report{
		Cells: []uint64{8, 2, 1<<64 - 1, 0}, Regs: [][8]uint64{regs(0, 1<<64-1, 0, 0, 0, 0, 0, 8)}, Done: []bool{true}, Steps: 3})
	alone(t, code{set(3, 4), {Kind: api.IStore, A: 2, B: 3}}, 6, 1, 0, regs(0, 0, 0, 4), true, 1)
}

func TestSwap(t *testing.T) {
	alone(t, code{set(0, 5), set(1, 6), swap(0, 1, 0)}, 5, 1, 6, regs(1, 6), true, 1)
	alone(t, code{set(0, 5), set(1, 6), swap(0, 1, 0)}, 4, 1, 4, regs(0, 6), true, 1)
	alone(t, code{set(0, 5), set(1, 6), swap(0, 1, 0)}, 6, 1, 6, regs(0, 6), true, 1)
	alone(t, code{set(1, 6), swap(0, 1, 0)}, 0, 1, 6, regs(1, 6), true, 1)
	alone(t, code{set(0, -1), swap(0, 1, 0)}, 1<<64-1, 1, 0, regs(1), true, 1)
	alone(t, code{set(3, 5), swap(3, 3, 0)}, 5, 1, 5, regs(0, 0, 0, 1), true, 1)
	alone(t, code{set(3, 5), swap(3, 3, 0)}, 4, 1, 4, regs(), true, 1)
	alone(t, code{swap(3, 3, 0)}, 0, 1, 0, regs(0, 0, 0, 1), true, 1)
	run(t, tasks(code{set(1, 2), swap(1, 0, 2), swap(1, 7, 0)}), []uint64{1, 2, 2, 2}, []int{0, 0}, api.Report{
		Cells: []uint64{0, 2, 0, 2}, Regs: [][8]uint64{regs(0, 1)}, Done: []bool{true}, Steps: 2})
}

func TestJump(t *testing.T) {
	alone(t, code{jump(0, 2), set(1, 5), set(2, 6)}, 0, 1, 0, regs(0, 0, 6), true, 1)
	alone(t, code{set(0, 1), jump(0, 3), set(1, 5), set(2, 6)}, 0, 1, 0, regs(1, 5, 6), true, 1)
	alone(t, code{set(0, -1), jump(0, 3), set(1, 5), set(2, 6)}, 0, 1, 0, regs(1<<64-1, 5, 6), true, 1)
	alone(t, code{set(0, math.MinInt64), jump(0, 3), set(1, 5), set(2, 6)}, 0, 1, 0, regs(1<<63, 5, 6), true, 1)
	alone(t, code{jump(7, 3), set(1, 5), set(2, 6)}, 0, 1, 0, regs(), true, 1)
	alone(t, code{jump(0, 1), set(1, 5)}, 0, 1, 0, regs(0, 5), true, 1)
	alone(t, code{set(3, 2), {Kind: api.IJump, A: 2, B: 3, N: 3}, set(1, 5), set(2, 6)}, 0, 1, 0, regs(0, 0, 6, 2), true, 1)
	// Back, till a register has come round to 0.
	alone(t, code{set(0, -3), add(1, 1, 2), add(0, 0, 1), jump(0, 5), jump(7, 1), stop()}, 0, 1, 0, regs(0, 6), true, 1)
}

func TestStop(t *testing.T) {
	alone(t, code{set(0, 1), stop(), set(0, 2)}, 0, 1, 0, regs(1), true, 1)
	alone(t, code{stop()}, 0, 3, 0, regs(), true, 1)
	alone(t, code{stop()}, 0, 0, 0, regs(), false, 0)
	alone(t, code{set(1, 4), {Kind: api.IStop, A: 1, B: 2, N: 3}, store(1, 0)}, 9, 5, 9, regs(0, 4), true, 1)
}

// 3.2: how far a step goes.

func TestStepEndsWithACell(t *testing.T) {
	for _, in := range []api.Instr{load(0, 0), store(0, 0), swap(0, 1, 0)} {
		list := code{set(2, 1), in, set(2, 2), in, set(2, 3)}
		for picks, want := range []struct {
			last  uint64
			done  bool
			steps int
		}{{0, false, 0}, {1, false, 1}, {2, false, 2}, {3, true, 3}, {3, true, 3}} {
			x, e := words.Run(tasks(list), []uint64{0}, make([]int, picks))
			if e != api.OK || x.Regs[0][2] != want.last || x.Done[0] != want.done || x.Steps != want.steps {
				t.Errorf("%v, %d picks: %v %d", in, picks, x, e)
			}
		}
	}
}

// A swap that finds another number is an access, too.
func TestStepEndsWithASwapThatFails(t *testing.T) {
	alone(t, code{swap(0, 1, 0), set(2, 7)}, 5, 1, 5, regs(), false, 1)
	alone(t, code{swap(0, 1, 0), set(2, 7)}, 5, 2, 5, regs(0, 0, 7), true, 2)
}

func TestStepEndsBehindTheEnd(t *testing.T) {
	alone(t, code{store(0, 0)}, 5, 1, 0, regs(), true, 1)
	alone(t, code{store(0, 0), stop()}, 5, 1, 0, regs(), false, 1) // it has not come to the stop
	alone(t, code{store(0, 0), stop()}, 5, 2, 0, regs(), true, 2)
	alone(t, code{store(0, 0), jump(7, 2)}, 5, 1, 0, regs(), false, 1)
	alone(t, code{store(0, 0), jump(7, 2)}, 5, 9, 0, regs(), true, 2)
}

func TestStepOf64(t *testing.T) {
	raise := func(n int) code { return many(n, add(0, 0, 1)) }
	alone(t, raise(63), 0, 1, 0, regs(63), true, 1)
	alone(t, raise(64), 0, 1, 0, regs(64), true, 1)
	alone(t, raise(65), 0, 1, 0, regs(64), false, 1)
	alone(t, raise(65), 0, 2, 0, regs(65), true, 2)
	alone(t, raise(128), 0, 2, 0, regs(128), true, 2)
	alone(t, raise(129), 0, 2, 0, regs(128), false, 2)
	alone(t, raise(129), 0, 3, 0, regs(129), true, 3)
	alone(t, raise(129), 0, 4, 0, regs(129), true, 3)
	// The last of the 64 is an access, or a stop, or the access comes a step later.
	alone(t, append(raise(63), store(0, 0), set(1, 1)), 0, 1, 63, regs(63), false, 1)
	alone(t, append(raise(64), store(0, 0), set(1, 1)), 0, 1, 0, regs(64), false, 1)
	alone(t, append(raise(64), store(0, 0), set(1, 1)), 0, 2, 64, regs(64), false, 2)
	alone(t, append(raise(63), stop(), set(1, 1)), 0, 1, 0, regs(63), true, 1)
	alone(t, append(raise(64), stop(), set(1, 1)), 0, 1, 0, regs(64), false, 1)
	alone(t, append(raise(64), stop(), set(1, 1)), 0, 2, 0, regs(64), true, 2)
	// Moves, sets and jumps count as much.
	for _, in := range []api.Instr{set(1, 2), move(1, 1), jump(0, 0)} {
		list := append(many(63, in), add(0, 0, 1), add(0, 0, 1))
		for i := range list[:63] {
			if in.Kind == api.IJump {
				list[i].N = int64(i) + 1
			}
		}
		x, e := words.Run(tasks(list), nil, []int{0})
		if e != api.OK || x.Regs[0][0] != 1 || x.Done[0] {
			t.Errorf("63 times %v, and two: %v %d", in, x, e)
		}
	}
}

// A step begins with its 64 whole, whatever the one before it had left.
func TestStepBeginsAnew(t *testing.T) {
	list := append(many(50, add(0, 0, 1)), load(1, 0))
	list = append(list, many(70, add(0, 0, 1))...)
	alone(t, list, 3, 1, 3, regs(50, 3), false, 1)
	alone(t, list, 3, 2, 3, regs(114, 3), false, 2)
	alone(t, list, 3, 3, 3, regs(120, 3), true, 3)
}

func TestStepInACircle(t *testing.T) {
	alone(t, code{jump(0, 0)}, 4, 1, 4, regs(), false, 1)
	alone(t, code{jump(0, 0)}, 4, 99, 4, regs(), false, 99)
	alone(t, code{jump(0, 1), jump(0, 0)}, 4, 7, 4, regs(), false, 7)
	alone(t, code{add(1, 1, 1), jump(0, 0)}, 4, 1, 4, regs(0, 32), false, 1)
	alone(t, code{add(1, 1, 1), add(2, 2, 1), jump(0, 0)}, 4, 1, 4, regs(0, 22, 21), false, 1)
	alone(t, code{add(1, 1, 1), add(2, 2, 1), jump(0, 0)}, 4, 3, 4, regs(0, 64, 64), false, 3)
	alone(t, code{load(1, 0), jump(0, 0)}, 4, 5, 4, regs(0, 4), false, 5)
}

// 3.2: a task that has stopped takes no step.

func TestStoppedStays(t *testing.T) {
	for _, end := range []code{nil, {stop()}, {stop(), store(7, 0)}, {jump(7, 2)}, {jump(7, 3), store(7, 0)}} {
		list := append(code{add(0, 0, 1)}, end...)
		alone(t, list, 5, 1, 5, regs(1), true, 1)
		alone(t, list, 5, 2, 5, regs(1), true, 1)
		alone(t, list, 5, 99, 5, regs(1), true, 1)
	}
}

// 3.2: pick by pick.

func TestPicksAreInOrder(t *testing.T) {
	list := tasks(code{set(0, 1), store(0, 0)}, code{set(0, 2), store(0, 0)}, code{load(0, 0)})
	for _, c := range []struct {
		picks []int
		cell  uint64
		seen  uint64
		done  []bool
		steps int
	}{
		{[]int{0, 1, 2}, 2, 2, []bool{true, true, true}, 3},
		{[]int{1, 0, 2}, 1, 1, []bool{true, true, true}, 3},
		{[]int{0, 2, 1}, 2, 1, []bool{true, true, true}, 3},
		{[]int{2, 1, 0}, 1, 9, []bool{true, true, true}, 3},
		{[]int{1, 2, 1}, 2, 2, []bool{false, true, true}, 2},
		{[]int{1, 1, 1}, 2, 0, []bool{false, true, false}, 1},
		{[]int{2, 2}, 9, 9, []bool{false, false, true}, 1},
	} {
		x, e := words.Run(list, []uint64{9}, c.picks)
		if e != api.OK || x.Cells[0] != c.cell || x.Regs[2][0] != c.seen || !slices.Equal(x.Done, c.done) || x.Steps != c.steps {
			t.Errorf("picks %v: %v %d", c.picks, x, e)
		}
	}
}

// R4: what is handed in is neither changed nor kept, and what lies behind its length is not read.

// laid is all that a run is handed, with spare room behind each list.
type laid struct {
	tasks [][]api.Instr
	cells []uint64
	picks []int
}

func lay() laid {
	first := code{load(0, 0), add(0, 0, 1), store(0, 1), set(5, 5), store(5, 2)}
	second := code{swap(0, 0, 1), set(3, 3), {Kind: 99}}
	return laid{
		[][]api.Instr{first[:3], second[:2], {{Kind: 98}}},
		[]uint64{4, 0, 77},
		[]int{0, 1, 0, 1, -1, 2},
	}
}

func (l laid) run(t *testing.T) api.Report {
	t.Helper()
	x, e := words.Run(l.tasks[:2], l.cells[:2], l.picks[:4])
	want := api.Report{Cells: []uint64{4, 5}, Regs: [][8]uint64{regs(5), regs(1, 0, 0, 3)}, Done: []bool{true, true}, Steps: 4}
	if e != api.OK || !sameReport(x, want) {
		t.Fatalf("%v %d, not %v", x, e, want)
	}
	return x
}

func (l laid) same(other laid) bool {
	for i := range l.tasks {
		if !slices.Equal(l.tasks[i][:cap(l.tasks[i])], other.tasks[i][:cap(other.tasks[i])]) {
			return false
		}
	}
	return slices.Equal(l.cells, other.cells) && slices.Equal(l.picks, other.picks)
}

func TestHandedInStays(t *testing.T) {
	l := lay()
	first := l.run(t)
	if !l.same(lay()) {
		t.Errorf("what was handed in has become %v", l)
	}
	second := l.run(t)
	for i := range first.Cells[:cap(first.Cells)] {
		first.Cells[:cap(first.Cells)][i] = 66
	}
	clear(first.Regs[:cap(first.Regs)])
	clear(first.Done[:cap(first.Done)])
	if !l.same(lay()) {
		t.Errorf("an answer has its memory from what was handed in: %v", l)
	}
	if !sameReport(second, l.run(t)) {
		t.Errorf("an answer has its memory from another: %v", second)
	}
	l.cells[0], l.cells[1] = 8, 8
	l.tasks[0][0] = stop()
	if !sameReport(second, lay().run(t)) {
		t.Errorf("what was handed in is kept: %v", second)
	}
}

func TestCheckReadsNothingBehind(t *testing.T) {
	l := lay()
	check(t, "spare room", l.tasks[:2], 2, 0, 0, api.OK)
	if !l.same(lay()) {
		t.Errorf("what was handed in has become %v", l)
	}
}

// A call that is refused leaves what it was handed, too.
func TestRefusedLeavesCells(t *testing.T) {
	cells := []uint64{3}
	refused(t, "a pick behind a good one", tasks(code{store(0, 0)}), cells, []int{0, 1}, api.ErrRange)
	if cells[0] != 3 {
		t.Errorf("the cell has become %d", cells[0])
	}
}

// The chapter's examples.

func TestExamples(t *testing.T) {
	one := tasks(code{set(0, 5), store(0, 1)})
	want := api.Report{Cells: []uint64{0, 5}, Regs: [][8]uint64{regs(5)}, Done: []bool{true}, Steps: 1}
	run(t, one, []uint64{0, 0}, []int{0}, want)
	run(t, one, []uint64{0, 0}, []int{0, 0}, want)
	raise := code{load(0, 0), add(1, 0, 1), swap(0, 1, 0)}
	run(t, tasks(raise, raise), []uint64{0}, []int{0, 1, 0, 1}, api.Report{
		Cells: []uint64{1}, Regs: [][8]uint64{regs(1, 1), regs(0, 1)}, Done: []bool{true, true}, Steps: 4})
}
