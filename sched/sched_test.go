package sched_test

import (
	"fmt"
	"math"
	"slices"
	"testing"

	"postrider/api"
	"postrider/sched"
)

// The numbers that the document's limits, and the machine's, set apart.
var (
	edgeNumbers  = []int{math.MinInt, math.MinInt + 1, -1, 0, 1, 7, math.MaxInt - 1, math.MaxInt}
	noRegisters  = []int{math.MinInt, -1, 4, 5, math.MaxInt}
	noCellCounts = []int{math.MinInt, -1, 0, api.MaxCells + 1, 1 << 40, math.MaxInt}
)

// program is a session's, as the calls take it.
type program = []api.Instr

// programs are n times the same one.
func programs(n int, p program) []program { return slices.Repeat([]program{p}, n) }

// steps is a program of n instructions that do nothing to the cells.
func steps(n int) program { return slices.Repeat(program{{Op: api.OpMore, A: 0, B: 1}}, n) }

// outside are numbers that there are not from 0 up to n.
func outside(n int) []int { return []int{math.MinInt, -n, -1, n, n + 1, math.MaxInt} }

// unmade are the machines that no call made.
func unmade() map[string]*sched.Machine {
	return map[string]*sched.Machine{"nil": nil, "plain": {}, "new": new(sched.Machine)}
}

func made(t *testing.T, cells int, l ...program) *sched.Machine {
	t.Helper()
	m, n, e := sched.Make(cells, l...)
	if m == nil || n != len(l) || e != api.OK {
		t.Fatalf("Make(%d, %v): %v, %d, %d, want a machine of %d", cells, l, m, n, int(e), len(l))
	}
	return m
}

// told is all that calls tell of a machine of so many cells and sessions.
func told(m *sched.Machine, cells, sessions int) string {
	s := fmt.Sprint(m.Cells())
	for at := range cells {
		s += fmt.Sprint(" ", m.Holder(at))
	}
	for who := range sessions {
		s += fmt.Sprint(" ", m.Over(who), m.At(who), m.Registers(who))
	}
	return s
}

func same(t *testing.T, what string, got, want any) {
	t.Helper()
	if g, w := fmt.Sprint(got), fmt.Sprint(want); g != w {
		t.Errorf("%s: %s, want %s", what, g, w)
	}
}

// answers are a call's results in a row, errors as numbers.
func answers(results ...any) []any {
	for i, r := range results {
		if e, ok := r.(api.Errno); ok {
			results[i] = int(e)
		}
	}
	return results
}

func Example() {
	adds := []api.Instr{{Op: api.OpAdd, Cell: 0, A: 0, B: 5}}
	m, sessions, _ := sched.Make(1, adds, adds)
	fmt.Println(sessions)
	fmt.Println(m.Run(1, 0, 7))
	fmt.Println(m.Cells())
	// Output:
	// 2
	// 2
	// [10]
}

// 2.1: from the least to the greatest number of cells and of sessions, all is 0, free, and at its beginning.
func TestMake(t *testing.T) {
	for _, cells := range []int{1, 2, api.MaxCells - 1, api.MaxCells} {
		for _, sessions := range []int{1, 2, api.MaxSessions - 1, api.MaxSessions} {
			for _, length := range []int{0, 1, api.MaxProgram - 1, api.MaxProgram} {
				m := made(t, cells, programs(sessions, steps(length))...)
				same(t, "Cells", m.Cells(), make([]int, cells))
				for at := range cells {
					same(t, "Holder", m.Holder(at), -1)
				}
				for who := range sessions {
					same(t, "a session", answers(m.Over(who), m.At(who), m.Registers(who)), answers(length == 0, 0, [4]int{}))
				}
				same(t, "the session behind the last", m.Over(sessions), true)
			}
		}
	}
}

// 2.1: a number of cells, or of sessions, that may not be, comes ahead of whatever the programs are.
func TestMakeErrArg(t *testing.T) {
	long, wrong := steps(api.MaxProgram+1), program{{}}
	lists := [][]program{{steps(1)}, {nil}, {long}, {wrong}, {steps(1), long, wrong}}
	for _, l := range lists {
		for _, cells := range noCellCounts {
			m, n, e := sched.Make(cells, l...)
			same(t, fmt.Sprint("Make of ", cells, " cells"), answers(m == nil, n, e), answers(true, 0, api.ErrArg))
		}
	}
	for _, cells := range append(slices.Clone(noCellCounts), 1, 2, api.MaxCells) {
		for _, sessions := range []int{0, api.MaxSessions + 1, api.MaxSessions + 2, 100} {
			for _, p := range []program{nil, steps(1), long, wrong} {
				m, n, e := sched.Make(cells, programs(sessions, p)...)
				same(t, fmt.Sprint("Make of ", sessions, " sessions"), answers(m == nil, n, e), answers(true, 0, api.ErrArg))
			}
		}
	}
}

// 2.1: of programs that are too long or not right, the first session's error is told, with its number, too long ahead of not right.
func TestMakeTellsTheSession(t *testing.T) {
	right, long, wrong := steps(api.MaxProgram), steps(api.MaxProgram+1), program{{Op: api.OpGo, B: 2}}
	both := append(steps(api.MaxProgram), api.Instr{})
	faults := []struct {
		p    program
		want api.Errno
	}{
		{long, api.ErrLong}, {steps(10 * api.MaxProgram), api.ErrLong}, {both, api.ErrLong}, {slices.Repeat(wrong, api.MaxProgram+1), api.ErrLong},
		{wrong, api.ErrNone}, {append(steps(api.MaxProgram-1), api.Instr{}), api.ErrNone},
	}
	for _, first := range faults {
		for who := range api.MaxSessions {
			for _, second := range faults {
				l := programs(api.MaxSessions, right)
				for later := who + 1; later < len(l); later++ {
					l[later] = second.p
				}
				l[who] = first.p
				m, n, e := sched.Make(1, l...)
				same(t, fmt.Sprint("a fault of session ", who), answers(m == nil, n, e), answers(true, who, first.want))
			}
		}
	}
}

// uses tells of which numbers each instruction is right: which of its cell, its A and its B must be a cell, a register or a place.
var uses = map[int]struct{ cell, a, b, place bool }{
	api.OpSet:   {a: true},
	api.OpLoad:  {cell: true, a: true},
	api.OpStore: {cell: true, a: true},
	api.OpSwap:  {cell: true, a: true, b: true},
	api.OpAdd:   {cell: true, a: true},
	api.OpMore:  {a: true},
	api.OpZero:  {a: true, place: true},
	api.OpGo:    {place: true},
	api.OpLock:  {cell: true},
	api.OpFree:  {cell: true},
}

// 2.1: each instruction is right just if what it uses is right, wherever it stands; what it does not use may be any number.
func TestMakeRight(t *testing.T) {
	numbers := []int{math.MinInt, -1, 0, 1, 2, 3, 4, 5, 63, 64, 65, math.MaxInt}
	within := func(n, below int) bool { return n >= 0 && n < below }
	for _, cells := range []int{1, 4, api.MaxCells} {
		for _, length := range []int{1, 3, api.MaxProgram} {
			for op := range 13 {
				for _, i := range instructions(op, numbers) {
					u, known := uses[op]
					right := known && (!u.cell || within(i.Cell, cells)) && (!u.a || within(i.A, 4)) &&
						(!u.b || within(i.B, 4)) && (!u.place || within(i.B, length+1))
					want := answers(false, 2, api.OK)
					if !right {
						want = answers(true, 1, api.ErrNone)
					}
					for _, at := range []int{0, length - 1} {
						p := steps(length)
						p[at] = i
						m, n, e := sched.Make(cells, nil, p)
						same(t, fmt.Sprint(i, " at ", at, " of ", length, " with ", cells, " cells"), answers(m == nil, n, e), want)
					}
				}
			}
		}
	}
}

// instructions are those of the kind with each of the numbers in each field.
func instructions(op int, numbers []int) []api.Instr {
	var l []api.Instr
	for _, c := range numbers {
		for _, a := range numbers {
			for _, b := range numbers {
				l = append(l, api.Instr{Op: op, Cell: c, A: a, B: b})
			}
		}
	}
	return l
}

// 2.1: what is no instruction is not right.
func TestMakeNoInstruction(t *testing.T) {
	for _, op := range []int{math.MinInt, -10, -1, 0, 11, 12, 100, 1 << 32, math.MaxInt} {
		_, n, e := sched.Make(1, steps(2), program{{Op: op}})
		same(t, fmt.Sprint("Op ", op), answers(n, e), answers(1, api.ErrNone))
	}
}

// 2.1: a program goes just as far as it is long: a place one further is not right, and at the program's end it is over.
func TestPlaceAtTheEnd(t *testing.T) {
	for _, length := range []int{1, 2, api.MaxProgram} {
		for _, op := range []int{api.OpGo, api.OpZero} {
			p := steps(length)
			p[0] = api.Instr{Op: op, B: length}
			m := made(t, 1, p)
			same(t, "a step to the end", answers(m.Step(0), m.Over(0), m.At(0), m.Step(0), m.At(0)), answers(true, true, length, false, length))
			p[0].B++
			_, n, e := sched.Make(1, p)
			same(t, "a place behind the end", answers(n, e), answers(0, api.ErrNone))
		}
	}
}

// 2.1: programs are not kept, and not changed: they are the caller's before and behind.
func TestMakeKeepsNoProgram(t *testing.T) {
	p := program{{Op: api.OpSet, A: 0, B: 1}, {Op: api.OpStore, A: 0}}
	l := []program{p, p}
	m := made(t, 1, l...)
	p[0].B, p[1].Op, l[1] = 9, api.OpGo, nil
	same(t, "Run", answers(m.Run(0, 0, 1), m.Cells(), m.At(1)), answers(3, []int{1}, 1))
	same(t, "the caller's", answers(p, l[1] == nil), answers(program{{Op: api.OpSet, A: 0, B: 9}, {Op: api.OpGo, A: 0}}, true))
}

// 2.1: a machine has nothing to do with another one of the same programs.
func TestMakeApart(t *testing.T) {
	p := program{{Op: api.OpLock}, {Op: api.OpAdd, B: 3}}
	a, b := made(t, 1, p), made(t, 1, p)
	was := told(b, 1, 1)
	same(t, "Run", a.Run(0, 0), 2)
	same(t, "the other machine", told(b, 1, 1), was)
}

// 2.1: each kind of instruction that works with numbers, at numbers of all sizes.
func TestSteps(t *testing.T) {
	for _, v := range edgeNumbers {
		for _, d := range edgeNumbers {
			m := made(t, 2, program{
				{Op: api.OpSet, A: 1, B: v, Cell: -1},
				{Op: api.OpStore, A: 1, Cell: 1},
				{Op: api.OpAdd, A: 2, B: d, Cell: 1},
				{Op: api.OpLoad, A: 3, Cell: 1},
				{Op: api.OpMore, A: 3, B: d, Cell: 9},
				{Op: api.OpMore, A: 1, B: -1},
			})
			var got []any
			for m.Step(0) {
				got = append(got, m.At(0), m.Registers(0), m.Cells())
			}
			same(t, fmt.Sprint(v, " and ", d), got, answers(
				1, [4]int{0, v}, []int{0, 0},
				2, [4]int{0, v}, []int{0, v},
				3, [4]int{0, v, v}, []int{0, v + d},
				4, [4]int{0, v, v, v + d}, []int{0, v + d},
				5, [4]int{0, v, v, v + 2*d}, []int{0, v + d},
				6, [4]int{0, v - 1, v, v + 2*d}, []int{0, v + d}))
		}
	}
}

// 2.1: a swap changes the cell only if it is as register B, which tells then whether it did; A and B may be the same one.
func TestSwap(t *testing.T) {
	for _, is := range edgeNumbers {
		for _, was := range edgeNumbers {
			for _, v := range edgeNumbers {
				m := made(t, 2, program{
					{Op: api.OpAdd, A: 0, B: is}, {Op: api.OpSet, A: 2, B: v}, {Op: api.OpSet, A: 3, B: was},
					{Op: api.OpSwap, A: 2, B: 3}, {Op: api.OpSet, A: 1, B: was}, {Op: api.OpSwap, Cell: 1, A: 1, B: 1},
				})
				cell, done, zero := is, 0, 0
				if is == was {
					cell, done = v, 1
				}
				if was == 0 {
					zero = 1
				}
				m.Run(0, 0, 0, 0)
				same(t, "Swap", answers(m.At(0), m.Registers(0), m.Cells()), answers(4, [4]int{0, 0, v, done}, []int{cell, 0}))
				m.Run(0, 0)
				same(t, "Swap of one register", answers(m.At(0), m.Registers(0), m.Cells()), answers(6, [4]int{0, zero, v, done}, []int{cell, 0}))
			}
		}
	}
}

// 2.1: a session goes elsewhere always, or if its register is 0, and else goes on.
func TestGo(t *testing.T) {
	for to := range 3 {
		m := made(t, 1, program{{Op: api.OpSet, B: 6}, {Op: api.OpGo, A: -1, B: to, Cell: -1}})
		same(t, "Go", answers(m.Run(0, 0), m.At(0), m.Registers(0)), answers(2, to, [4]int{6}))
	}
	for _, v := range edgeNumbers {
		m := made(t, 1, program{{Op: api.OpSet, A: 3, B: v}, {Op: api.OpZero, A: 3, B: 0}, {Op: api.OpMore, A: 0, B: 4}})
		at := 2
		if v == 0 {
			at = 0
		}
		same(t, "Zero", answers(m.Run(0, 0), m.At(0), m.Registers(0)), answers(2, at, [4]int{0, 0, 0, v}))
	}
	m := made(t, 1, program{{Op: api.OpGo, B: 0}})
	same(t, "a program without an end", answers(m.Run(0, 0, 0), m.At(0), m.Over(0)), answers(3, 0, false))
}

// 2.1, 2.2: a cell that is had is waited for, with steps that count; who does not have it frees it not, and goes on.
func TestLockAndFree(t *testing.T) {
	p := program{{Op: api.OpLock, Cell: 1}, {Op: api.OpFree, Cell: 1}}
	m := made(t, 2, p, p, program{{Op: api.OpFree, Cell: 1}, {Op: api.OpFree, Cell: 0}}, program{{Op: api.OpLock, Cell: 0}})
	at := func() []int { return []int{m.Holder(0), m.Holder(1), m.At(0), m.At(1), m.At(2), m.At(3)} }
	for _, s := range []struct {
		pick int
		want []int
	}{
		{1, []int{-1, 1, 0, 1, 0, 0}}, // had
		{0, []int{-1, 1, 0, 1, 0, 0}}, // waits
		{0, []int{-1, 1, 0, 1, 0, 0}}, // waits still
		{2, []int{-1, 1, 0, 1, 1, 0}}, // frees what another one has: nothing
		{3, []int{3, 1, 0, 1, 1, 1}},  // has another cell
		{2, []int{3, 1, 0, 1, 2, 1}},
		{1, []int{3, -1, 0, 2, 2, 1}}, // freed
		{0, []int{3, 0, 1, 2, 2, 1}},  // had by who waited
		{0, []int{3, -1, 2, 2, 2, 1}},
	} {
		same(t, "Step", m.Step(s.pick), true)
		same(t, fmt.Sprint("holders and places behind a pick of ", s.pick), at(), s.want)
	}
	same(t, "all are over", answers(m.Over(0), m.Over(1), m.Over(2), m.Over(3), m.Cells()), answers(true, true, true, true, []int{0, 0}))
}

// 2.1: a session that has a cell waits for it as others do; one that nobody has is freed by nobody, and it goes on.
func TestLockTwice(t *testing.T) {
	m := made(t, 1, program{{Op: api.OpFree}, {Op: api.OpLock}, {Op: api.OpLock}, {Op: api.OpFree}}, program{{Op: api.OpLock}})
	same(t, "Free of one that nobody has", answers(m.Step(0), m.At(0), m.Holder(0)), answers(true, 1, -1))
	same(t, "Lock", answers(m.Step(0), m.At(0), m.Holder(0)), answers(true, 2, 0))
	for range 5 {
		same(t, "Lock again", answers(m.Step(0), m.At(0), m.Holder(0), m.Over(0)), answers(true, 2, 0, false))
		same(t, "Lock of another one", answers(m.Step(1), m.At(1), m.Holder(0)), answers(true, 0, 0))
	}
	done, over := m.Fair(101)
	same(t, "Fair", answers(done, over, m.At(0), m.At(1)), answers(101, false, 2, 0))
}

// 2.1: every session locks under its own number.
func TestLockBySession(t *testing.T) {
	m := made(t, api.MaxCells, programs(api.MaxSessions, program{{Op: api.OpLock, Cell: api.MaxCells - 1}, {Op: api.OpFree, Cell: api.MaxCells - 1}})...)
	for who := range api.MaxSessions {
		same(t, "Lock", answers(m.Step(who), m.Holder(api.MaxCells-1)), answers(true, who))
		same(t, "Free", answers(m.Step(who), m.Holder(api.MaxCells-1)), answers(true, -1))
	}
}

// 2.2: a session that is over has its locks still.
func TestLockBehindTheEnd(t *testing.T) {
	m := made(t, 1, program{{Op: api.OpLock}}, program{{Op: api.OpLock}})
	same(t, "Run", answers(m.Run(0, 0, 1, 0, 1), m.Holder(0), m.Over(0), m.Over(1)), answers(3, 0, true, false))
}

// 2.1, 2.3: picks that are no session's, or whose session is over, do nothing and are not counted.
func TestPicksThatDoNothing(t *testing.T) {
	for _, sessions := range []int{1, 2, api.MaxSessions} {
		m := made(t, 1, programs(sessions, program{{Op: api.OpLock}, {Op: api.OpFree}, {Op: api.OpAdd, B: 2}})...)
		m.Step(0)
		was := told(m, 1, sessions)
		for _, pick := range outside(sessions) {
			same(t, fmt.Sprint("Step of ", pick), m.Step(pick), false)
		}
		same(t, "Run", answers(m.Run(outside(sessions)...), m.Run()), answers(0, 0))
		same(t, "what is told behind such picks", told(m, 1, sessions), was)
		same(t, "Run with others between", m.Run(-1, 0, sessions, 0, sessions, 0, math.MinInt), 2)
		same(t, "the cell", answers(m.Cells(), m.Over(0)), answers([]int{2}, true))
		was = told(m, 1, sessions)
		same(t, "a session that is over", answers(m.Step(0), m.Run(0, 0), m.Step(0)), answers(false, 0, false))
		same(t, "what is told behind its picks", told(m, 1, sessions), was)
	}
}

// 2.1: a session without instructions is over from the beginning, and others are not held up.
func TestEmptyPrograms(t *testing.T) {
	m := made(t, 1, nil, program{}, steps(1))
	same(t, "Step", answers(m.Step(0), m.Step(1), m.Over(0), m.Over(1), m.Over(2)), answers(false, false, true, true, false))
	done, over := m.Fair(2)
	same(t, "Fair(2)", answers(done, over), answers(0, false))
	done, over = m.Fair(3)
	same(t, "Fair(3)", answers(done, over), answers(1, true))
	done, over = made(t, 1, nil, nil).Fair(0)
	same(t, "Fair of none", answers(done, over), answers(0, true))
}

// 2.1: picks are done in their order, each of them one step, past the end of one session and on with others.
func TestRun(t *testing.T) {
	put := func(v int) program { return program{{Op: api.OpSet, B: v}, {Op: api.OpStore}} }
	for _, c := range []struct {
		picks []int
		done  int
		cell  int
	}{
		{nil, 0, 0}, {[]int{0}, 1, 0}, {[]int{0, 0}, 2, 4}, {[]int{0, 1, 1, 0}, 4, 4}, {[]int{1, 0, 0, 1}, 4, 5},
		{[]int{0, 0, 0, 0, 1, 1}, 4, 5}, {[]int{1, 1, 0, 0, 0, 1, 0}, 4, 4}, {[]int{2, 0, -1, 0, 2, 1, 1}, 4, 5},
	} {
		m := made(t, 1, put(4), put(5))
		picks := slices.Clone(c.picks)
		same(t, fmt.Sprint("Run ", c.picks), answers(m.Run(picks...), m.Cells()), answers(c.done, []int{c.cell}))
		same(t, "the caller's picks", picks, c.picks)
	}
}

// 2.1: fair picks begin with 0 at each call, go round, and are counted also where a session is over.
func TestFair(t *testing.T) {
	lengths := []int{3, 0, 1}
	for most := range 12 {
		m := made(t, 1, steps(3), nil, steps(1))
		left := slices.Clone(lengths)
		want := 0
		for n := range most {
			if left[n%3] > 0 {
				left[n%3]--
				want++
			}
		}
		all := left[0]+left[1]+left[2] == 0
		done, over := m.Fair(most)
		same(t, fmt.Sprint("Fair(", most, ")"), answers(done, over), answers(want, all))
		same(t, "places", []int{m.At(0), m.At(1), m.At(2)}, []int{3 - left[0], 0, 1 - left[2]})
	}
	m := made(t, 1, steps(2), steps(2))
	for range 2 { // one pick a call: always of session 0
		done, over := m.Fair(1)
		same(t, "Fair(1)", answers(done, over), answers(1, false))
	}
	same(t, "places", []int{m.At(0), m.At(1)}, []int{2, 0})
	done, over := m.Fair(1)
	same(t, "Fair(1) of one that is over", answers(done, over, m.At(1)), answers(0, false, 0))
}

// 2.1: with most 0 or less nothing is picked, and whether all are over is told all the same.
func TestFairOfNone(t *testing.T) {
	m := made(t, 1, steps(1), steps(1))
	for _, most := range []int{math.MinInt, -1000, -1, 0} {
		done, over := m.Fair(most)
		same(t, fmt.Sprint("Fair(", most, ")"), answers(done, over, m.At(0), m.At(1)), answers(0, false, 0, 0))
	}
	m.Run(0, 1)
	for _, most := range []int{math.MinInt, -1, 0, 1, 1 << 40, math.MaxInt} {
		done, over := m.Fair(most)
		same(t, fmt.Sprint("Fair(", most, ") where all are over"), answers(done, over), answers(0, true))
	}
}

// 2.1: fair picks end when all sessions are over, however many more there may be.
func TestFairEnds(t *testing.T) {
	for _, sessions := range []int{1, 2, api.MaxSessions} {
		m := made(t, 1, programs(sessions, steps(api.MaxProgram))...)
		done, over := m.Fair(math.MaxInt)
		same(t, "Fair", answers(done, over), answers(sessions*api.MaxProgram, true))
	}
	m := made(t, 1, program{{Op: api.OpGo}}, steps(5))
	done, over := m.Fair(20)
	same(t, "Fair of one that never ends", answers(done, over, m.Over(0), m.Over(1)), answers(15, false, false, true))
}

// 2.2: of a session that there is not: over, and noughts; of a cell that there is not: nobody.
func TestTellingOfNone(t *testing.T) {
	for _, sessions := range []int{1, 3, api.MaxSessions} {
		m := made(t, 2, programs(sessions, program{{Op: api.OpSet, A: 1, B: 4}, {Op: api.OpLock}, {Op: api.OpGo, B: 2}})...)
		m.Fair(2 * sessions)
		for _, who := range outside(sessions) {
			same(t, fmt.Sprint("session ", who), answers(m.Over(who), m.At(who), m.Registers(who)), answers(true, 0, [4]int{}))
		}
		for _, at := range outside(2) {
			same(t, fmt.Sprint("cell ", at), m.Holder(at), -1)
		}
	}
}

// 2.2: what is handed out is the caller's own.
func TestCellsAreTheCallers(t *testing.T) {
	m := made(t, 2, program{{Op: api.OpAdd, A: 3, B: 1}, {Op: api.OpAdd, A: 3, B: 1}})
	m.Step(0)
	was, got := m.Cells(), m.Cells()
	got[0] = 8
	_ = append(got[:1], 9)
	registers := m.Registers(0)
	registers[3] = 7
	same(t, "Cells", answers(m.Cells(), m.Registers(0)), answers([]int{1, 0}, [4]int{}))
	m.Step(0)
	same(t, "an elder list", answers(was, m.Cells(), m.Registers(0)), answers([]int{1, 0}, []int{2, 0}, [4]int{0, 0, 0, 1}))
}

// P1: a machine that no call made has no sessions and no cells, and all of none are over.
func TestNoMachine(t *testing.T) {
	for name, m := range unmade() {
		for _, n := range append(outside(1), 0, 1, 15, 16) {
			done, over := m.Fair(n)
			same(t, name+" picked", answers(m.Step(n), m.Run(n, 0, n), m.Run(), done, over), answers(false, 0, 0, 0, true))
			same(t, name+" told of", answers(m.Over(n), m.At(n), m.Registers(n), m.Holder(n)), answers(true, 0, [4]int{}, -1))
		}
		same(t, name+" has no cells", answers(len(m.Cells())), answers(0))
	}
}
