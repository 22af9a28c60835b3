package cell_test

import (
	"fmt"
	"math"
	"slices"
	"testing"

	"postrider/api"
	"postrider/cell"
)

// The numbers that the document's limits, and the machine's, set apart.
var (
	edgeNumbers  = []int{math.MinInt, math.MinInt + 1, -1, 0, 1, 7, math.MaxInt - 1, math.MaxInt}
	noSessions   = []int{math.MinInt, -2, -1, api.MaxSessions, api.MaxSessions + 1, math.MaxInt}
	noSizes      = []int{math.MinInt, -1, 0, api.MaxCells + 1, 1 << 40, math.MaxInt}
	edgeSessions = []int{0, 1, 7, api.MaxSessions - 2, api.MaxSessions - 1}
	sizes        = []int{1, 2, 3, api.MaxCells - 1, api.MaxCells}
)

// noCells are places at which a memory of n cells has none.
func noCells(n int) []int {
	return []int{math.MinInt, -n, -1, n, n + 1, api.MaxCells, api.MaxCells + 1, math.MaxInt}
}

// unmade are the memories that no call made.
func unmade() map[string]*cell.Memory {
	return map[string]*cell.Memory{"nil": nil, "plain": {}, "new": new(cell.Memory)}
}

func made(t *testing.T, n int) *cell.Memory {
	t.Helper()
	m, e := cell.Make(n)
	if m == nil || e != api.OK {
		t.Fatalf("Make(%d): %v, %v, want a memory", n, m, e)
	}
	return m
}

// told is all that calls tell of a memory of n cells.
func told(m *cell.Memory, n int) string {
	s := fmt.Sprint(m.All())
	for at := range n {
		v, e := m.Load(at)
		s += fmt.Sprint(" ", v, int(e), m.Holder(at), m.Writes(at))
	}
	return s
}

func same(t *testing.T, what string, got, want any) {
	t.Helper()
	if g, w := fmt.Sprint(got), fmt.Sprint(want); g != w {
		t.Errorf("%s: %s, want %s", what, g, w)
	}
}

// answers are a call's results in a row, errors as numbers.
func answers(results ...any) []any {
	for i, r := range results {
		if e, ok := r.(api.Errno); ok {
			results[i] = int(e)
		}
	}
	return results
}

func Example() {
	m, _ := cell.Make(1)
	fmt.Println(m.Add(0, 5))
	fmt.Println(m.Swap(0, 5, 7))
	fmt.Println(m.Load(0))
	fmt.Println(m.Writes(0))
	// Output:
	// 0 error 0
	// true error 0
	// 7 error 0
	// 2
}

// 1.1: from the least to the greatest number of cells, each is 0, free and never written.
func TestMake(t *testing.T) {
	for n := 1; n <= api.MaxCells; n++ {
		m := made(t, n)
		same(t, fmt.Sprint("All of ", n), m.All(), make([]int, n))
		for at := range n {
			same(t, fmt.Sprint("a new cell ", at, " of ", n), answers(m.Holder(at), m.Writes(at)), answers(-1, 0))
		}
		_, e := m.Load(n)
		same(t, fmt.Sprint("the cell behind ", n), int(e), int(api.ErrArg))
	}
	for _, n := range noSizes {
		if m, e := cell.Make(n); m != nil || e != api.ErrArg {
			t.Errorf("Make(%d): %v, %d, want nil and ErrArg", n, m, int(e))
		}
	}
}

// 1.1: two memories have nothing to do with one another.
func TestMakeApart(t *testing.T) {
	a, b := made(t, 2), made(t, 2)
	was := told(b, 2)
	a.Store(0, 4)
	a.Lock(1, 1)
	same(t, "the other memory", told(b, 2), was)
}

// 1.1, 1.4: what is stored is read, till it is written again, and no other cell is another one.
func TestStoreAndLoad(t *testing.T) {
	for _, n := range sizes {
		m := made(t, n)
		want := make([]int, n)
		for round, v := range edgeNumbers {
			for at := range n {
				same(t, "Store", int(m.Store(at, v+at)), 0)
				want[at] = v + at
				same(t, "All after Store", m.All(), want)
				same(t, "Writes after Store", m.Writes(at), round+1)
			}
			for range 2 { // reading takes nothing away
				for at := range n {
					v, e := m.Load(at)
					same(t, "Load", answers(v, e), answers(want[at], 0))
				}
			}
		}
	}
}

// 1.1, 1.3: a swap changes the number only if it is as it is told to be, and only then it writes.
func TestSwap(t *testing.T) {
	for _, is := range edgeNumbers {
		for _, was := range edgeNumbers {
			for _, v := range edgeNumbers {
				m := made(t, 2)
				m.Store(0, is)
				m.Store(1, was)
				done, e := m.Swap(0, was, v)
				want, writes := is, 1
				if is == was {
					want, writes = v, 2
				}
				what := fmt.Sprint("Swap(", was, ", ", v, ") of ", is)
				same(t, what, answers(done, e, m.All(), m.Writes(0), m.Writes(1)), answers(is == was, 0, []int{want, was}, writes, 1))
			}
		}
	}
}

// 1.1: a swap of a new cell finds 0, and one that failed can succeed later.
func TestSwapAgain(t *testing.T) {
	m := made(t, 1)
	var done []bool
	for _, s := range [][2]int{{1, 2}, {0, 3}, {0, 4}, {3, 3}, {3, 0}} {
		d, e := m.Swap(0, s[0], s[1])
		same(t, "Swap", int(e), 0)
		done = append(done, d)
	}
	same(t, "swaps", answers(done, m.All(), m.Writes(0)), answers([]bool{false, true, false, true, true}, []int{0}, 3))
}

// 1.1: adding answers what it was, and goes round within 64 bits.
func TestAdd(t *testing.T) {
	for _, c := range []struct{ is, d, sum int }{
		{0, 5, 5}, {5, 0, 5}, {5, -7, -2}, {-2, 2, 0},
		{math.MaxInt64, 1, math.MinInt64}, {math.MinInt64, -1, math.MaxInt64},
		{math.MaxInt64, math.MaxInt64, -2}, {math.MinInt64, math.MinInt64, 0},
		{math.MaxInt64, math.MinInt64, -1}, {math.MaxInt32, 1, 1 << 31}, {math.MinInt32, -1, -1<<31 - 1},
	} {
		m := made(t, 2)
		m.Store(1, c.is)
		was, e := m.Add(1, c.d)
		what := fmt.Sprint("Add(", c.d, ") to ", c.is)
		same(t, what, answers(was, e, m.All(), m.Writes(0), m.Writes(1)), answers(c.is, 0, []int{0, c.sum}, 0, 2))
	}
}

// orders calls do with each order of the list.
func orders(list []int, do func([]int)) {
	var from func(int)
	from = func(k int) {
		if k == len(list) {
			do(list)
		}
		for i := k; i < len(list); i++ {
			list[k], list[i] = list[i], list[k]
			from(k + 1)
			list[k], list[i] = list[i], list[k]
		}
	}
	from(0)
}

// 1.5: additions come to their sum in any order, gone round or not.
func TestAddInAnyOrder(t *testing.T) {
	for _, list := range [][]int{
		{1, 2, 4, 8, 16, 32},
		{math.MaxInt, 1, math.MinInt, -1, 5, math.MaxInt},
		{math.MinInt, math.MinInt, math.MinInt, 3, -3, 9},
	} {
		sum := 0
		for _, d := range list {
			sum += d
		}
		orders(list, func(order []int) {
			m := made(t, 1)
			for _, d := range order {
				m.Add(0, d)
			}
			if all := m.All(); all[0] != sum || m.Writes(0) != len(order) {
				t.Errorf("adding %v: %v, %d writes, want %d", order, all, m.Writes(0), sum)
			}
		})
	}
}

// 1.5: many additions are counted, each cell's of its own.
func TestAddMany(t *testing.T) {
	m := made(t, api.MaxCells)
	for i := range 100 * api.MaxCells {
		at := i * 7 % api.MaxCells
		was, _ := m.Add(at, at)
		if was != i/api.MaxCells*at {
			t.Fatalf("Add %d to cell %d: it was %d", i, at, was)
		}
	}
	for at, v := range m.All() {
		same(t, "sum", answers(v, m.Writes(at)), answers(100*at, 100))
	}
}

// 1.2, 1.6: a cell that a session has is had by nobody else, and is freed by nobody else.
func TestOneAlone(t *testing.T) {
	m := made(t, api.MaxCells)
	for at := 0; at < api.MaxCells; at += api.MaxCells - 1 {
		for who := range api.MaxSessions {
			same(t, "Lock", answers(m.Lock(at, who), m.Holder(at)), answers(0, who))
			for other := range api.MaxSessions {
				same(t, "Lock of one that is had", answers(m.Lock(at, other), m.Holder(at)), answers(api.ErrBusy, who))
				if other != who {
					same(t, "Free by another", answers(m.Free(at, other), m.Holder(at)), answers(api.ErrNone, who))
				}
			}
			same(t, "Free", answers(m.Free(at, who), m.Holder(at)), answers(0, -1))
			for other := range api.MaxSessions {
				same(t, "Free of one that nobody has", answers(m.Free(at, other), m.Holder(at)), answers(api.ErrNone, -1))
			}
		}
	}
}

// 1.2: each cell has a lock of its own, and a session may have many.
func TestLocksApart(t *testing.T) {
	m := made(t, 4)
	same(t, "Locks", answers(m.Lock(0, 2), m.Lock(2, 2), m.Lock(3, 0)), answers(0, 0, 0))
	holders := func() []int { return []int{m.Holder(0), m.Holder(1), m.Holder(2), m.Holder(3)} }
	same(t, "holders", holders(), []int{2, -1, 2, 0})
	same(t, "Free", answers(m.Free(0, 2), m.Free(1, 2)), answers(0, api.ErrNone))
	same(t, "holders", holders(), []int{-1, -1, 2, 0})
	same(t, "locks are no writes", answers(m.All(), m.Writes(0), m.Writes(2)), answers(make([]int, 4), 0, 0))
}

// 1.2: a lock keeps nobody from reading and writing, and these leave the lock as it is.
func TestLocksKeepNobodyOut(t *testing.T) {
	m := made(t, 1)
	m.Lock(0, 15)
	store := m.Store(0, 3)
	was, add := m.Add(0, 4)
	done, swap := m.Swap(0, 7, 9)
	v, load := m.Load(0)
	same(t, "a locked cell", answers(store, was, add, done, swap, v, load), answers(0, 3, 0, true, 0, 9, 0))
	same(t, "its lock", answers(m.Writes(0), m.Holder(0), m.Free(0, 15)), answers(3, 15, 0))
}

// 1.3: no such cell is had by nobody and was never written.
func TestTellingOfNoSuchCell(t *testing.T) {
	for _, n := range sizes {
		m := made(t, n)
		for at := range n {
			m.Store(at, 1)
			m.Lock(at, 3)
		}
		for _, at := range noCells(n) {
			same(t, fmt.Sprint("cell ", at, " of ", n), answers(m.Holder(at), m.Writes(at)), answers(-1, 0))
		}
	}
}

// 1.3: the list of all numbers is the caller's own.
func TestAllIsTheCallers(t *testing.T) {
	m := made(t, 3)
	m.Store(1, 8)
	was := m.All()
	got := m.All()
	got[1] = 5
	_ = append(got[:1], 6, 6)
	same(t, "All", answers(m.All(), was), answers([]int{0, 8, 0}, []int{0, 8, 0}))
	m.Store(2, 4)
	same(t, "an elder list", was, []int{0, 8, 0})
}

// 1.3: a copy tells what its memory told, and either goes on alone.
func TestCopy(t *testing.T) {
	for _, n := range sizes {
		m := made(t, n)
		m.Store(n-1, 6)
		m.Add(n-1, 1)
		m.Lock(0, 4)
		was := told(m, n)
		c := m.Copy()
		same(t, "a copy", told(c, n), was)
		same(t, "a copy's copy", told(c.Copy(), n), was)
		c.Add(0, 2)
		c.Free(0, 4)
		same(t, "the memory, behind changes to its copy", told(m, n), was)
		was = told(c, n)
		m.Swap(n-1, 7, 1)
		m.Free(0, 4)
		m.Lock(0, 9)
		same(t, "the copy, behind changes to its memory", told(c, n), was)
		_, e := c.Load(n)
		same(t, "a copy's cell that there is not", int(e), int(api.ErrArg))
	}
}

// P1: of a memory that no call made, ErrNil comes ahead of all other errors, and all else is zero.
func TestNoMemory(t *testing.T) {
	for name, m := range unmade() {
		for _, at := range append(noCells(1), 0) {
			for _, who := range append(slices.Clone(noSessions), edgeSessions...) {
				load, e1 := m.Load(at)
				done, e2 := m.Swap(at, 0, who)
				was, e3 := m.Add(at, who)
				got := answers(load, e1, done, e2, was, e3, m.Store(at, who), m.Lock(at, who), m.Free(at, who))
				same(t, name, got, answers(0, 1, false, 1, 0, 1, 1, 1, 1))
				same(t, name, answers(m.Holder(at), m.Writes(at), m.All() == nil, m.Copy() == nil), answers(0, 0, true, true))
			}
		}
	}
}

// refuseCell does each call at a cell that there is not, and holds its answer.
func refuseCell(t *testing.T, m *cell.Memory, at int) {
	t.Helper()
	for _, v := range edgeNumbers {
		load, e1 := m.Load(at)
		done, e2 := m.Swap(at, v, v+1)
		zero, e3 := m.Swap(at, 0, v)
		was, e4 := m.Add(at, v)
		got := answers(load, e1, done, e2, zero, e3, was, e4, m.Store(at, v))
		same(t, fmt.Sprint("cell ", at), got, answers(0, 2, false, 2, false, 2, 0, 2, 2))
	}
	for _, who := range append(slices.Clone(noSessions), edgeSessions...) {
		same(t, fmt.Sprint("cell ", at, ", session ", who), answers(m.Lock(at, who), m.Free(at, who)), answers(2, 2))
	}
}

// P1, P2: wrong arguments are told, ErrArg ahead of ErrBusy and ErrNone, and nothing is changed by what is refused.
func TestRefusedChangesNothing(t *testing.T) {
	for _, n := range sizes {
		m := made(t, n)
		m.Store(0, 12)
		m.Lock(0, 5)
		m.Add(n-1, 3)
		was := told(m, n)
		for _, at := range noCells(n) {
			refuseCell(t, m, at)
		}
		for at := range n {
			for _, who := range noSessions {
				same(t, fmt.Sprint("session ", who), answers(m.Lock(at, who), m.Free(at, who)), answers(2, 2))
			}
		}
		for _, who := range []int{0, 4, 5, 6, 15} {
			same(t, "Lock of one that is had", int(m.Lock(0, who)), int(api.ErrBusy))
			if who != 5 {
				same(t, "Free of one that another has", int(m.Free(0, who)), int(api.ErrNone))
			}
		}
		done, e := m.Swap(0, 13, 14)
		same(t, "a swap that fails", answers(done, e), answers(false, 0))
		same(t, "what is told behind what was refused", told(m, n), was)
		same(t, "Free", int(m.Free(0, 5)), 0)
	}
}
