package sched_test

import (
	"fmt"
	"slices"
	"testing"

	"postrider/api"
	"postrider/sched"
)

// plain is a machine of two cells and two sessions as the document's words say it, to hold the program's against.
type plain struct {
	cells     [2]int
	holders   [2]int // a session and 1, so that 0 is nobody
	at        [2]int
	registers [2][4]int
}

// step is what the document says that a pick does.
func (x *plain) step(who int, l [2]program) bool {
	if who < 0 || who > 1 || x.at[who] >= len(l[who]) {
		return false
	}
	i, r := l[who][x.at[who]], &x.registers[who]
	x.at[who]++
	switch i.Op {
	case 1:
		r[i.A] = i.B
	case 2:
		r[i.A] = x.cells[i.Cell]
	case 3:
		x.cells[i.Cell] = r[i.A]
	case 4:
		if x.cells[i.Cell] == r[i.B] {
			x.cells[i.Cell] = r[i.A]
			r[i.B] = 1
		} else {
			r[i.B] = 0
		}
	case 5:
		was := x.cells[i.Cell]
		x.cells[i.Cell] += i.B
		r[i.A] = was
	case 6:
		r[i.A] += i.B
	case 7:
		if r[i.A] == 0 {
			x.at[who] = i.B
		}
	case 8:
		x.at[who] = i.B
	case 9:
		if x.holders[i.Cell] != 0 {
			x.at[who]--
		} else {
			x.holders[i.Cell] = who + 1
		}
	case 10:
		if x.holders[i.Cell] == who+1 {
			x.holders[i.Cell] = 0
		}
	}
	return true
}

// told is what told tells of a machine that is as this one.
func (x *plain) told(l [2]program) string {
	s := fmt.Sprint(x.cells, " ", x.holders[0]-1, " ", x.holders[1]-1)
	for who := range 2 {
		s += fmt.Sprint(" ", x.at[who] >= len(l[who]), x.at[who], x.registers[who])
	}
	return s
}

// dice are numbers that look thrown, the same ones at each run.
type dice uint64

func (d *dice) below(n int) int {
	*d = *d*6364136223846793005 + 1442695040888963407
	return int(uint64(*d)>>33) % n
}

// thrown is a right program of up to 8 instructions over two cells, with few numbers, so that sessions meet.
func (d *dice) thrown() program {
	p := make(program, d.below(9))
	for at := range p {
		i := api.Instr{Op: 1 + d.below(10), Cell: d.below(2), A: d.below(2), B: d.below(3)}
		if i.Op == api.OpZero || i.Op == api.OpGo {
			i.B = d.below(len(p) + 1)
		}
		p[at] = i
	}
	return p
}

// 2.1, 2.2: machines of all kinds of programs do at all kinds of picks what the document's words say, step by step.
func TestHistories(t *testing.T) {
	d := dice(1)
	for range 3000 {
		l := [2]program{d.thrown(), d.thrown()}
		m, x := made(t, 2, l[:]...), plain{}
		var past []int
		for range 30 {
			pick := d.below(4) - 1
			past = append(past, pick)
			if got, want := m.Step(pick), x.step(pick, l); got != want || told(m, 2, 2) != x.told(l) {
				t.Fatalf("%v picked %v: %v, then %s; want %v, then %s", l, past, got, told(m, 2, 2), want, x.told(l))
			}
		}
		holdWhole(t, l, past)
		holdFair(t, l, d.below(40))
	}
}

// holdWhole holds a run of all picks at once against them one by one.
func holdWhole(t *testing.T, l [2]program, picks []int) {
	t.Helper()
	m, x, want := made(t, 2, l[:]...), plain{}, 0
	for _, pick := range picks {
		if x.step(pick, l) {
			want++
		}
	}
	if got := m.Run(picks...); got != want || told(m, 2, 2) != x.told(l) {
		t.Fatalf("%v: Run %v: %d, then %s; want %d, then %s", l, picks, got, told(m, 2, 2), want, x.told(l))
	}
}

// holdFair holds fair picks against picks of 0 and 1 in turn.
func holdFair(t *testing.T, l [2]program, most int) {
	t.Helper()
	m, x, want := made(t, 2, l[:]...), plain{}, 0
	for n := range most {
		if x.step(n%2, l) {
			want++
		}
	}
	all := x.at[0] >= len(l[0]) && x.at[1] >= len(l[1])
	if got, over := m.Fair(most); got != want || over != all || told(m, 2, 2) != x.told(l) {
		t.Fatalf("%v: Fair(%d): %d, %v, then %s; want %d, %v, then %s", l, most, got, over, told(m, 2, 2), want, all, x.told(l))
	}
}

// 2.4: a step changes one cell at most, one lock at most, and no other session.
func TestOneStep(t *testing.T) {
	d := dice(2)
	for range 500 {
		l := []program{d.thrown(), d.thrown(), d.thrown(), d.thrown()}
		m := made(t, 2, l...)
		for range 40 {
			pick := d.below(5)
			was := parts(m)
			m.Step(pick)
			now := parts(m)
			if changed(was[:2], now[:2]) > 1 || changed(was[2:4], now[2:4]) > 1 {
				t.Fatalf("%v: a step of %d: %v, then %v", l, pick, was, now)
			}
			for who := range l {
				if who != pick && was[4+who] != now[4+who] {
					t.Fatalf("%v: a step of %d changed session %d: %v, then %v", l, pick, who, was, now)
				}
			}
		}
	}
}

// parts are what a step can change of a machine of two cells and four sessions: cells, holders, and sessions.
func parts(m *sched.Machine) []string {
	var l []string
	for _, v := range m.Cells() {
		l = append(l, fmt.Sprint(v))
	}
	for at := range 2 {
		l = append(l, fmt.Sprint(m.Holder(at)))
	}
	for who := range 4 {
		l = append(l, fmt.Sprint(m.Over(who), m.At(who), m.Registers(who)))
	}
	return l
}

func changed(was, now []string) int {
	n := 0
	for i := range was {
		if was[i] != now[i] {
			n++
		}
	}
	return n
}

// all does each list of n picks below the number of sessions.
func all(n, sessions int, do func([]int)) {
	picks := make([]int, n)
	var from func(int)
	from = func(at int) {
		if at == n {
			do(picks)
			return
		}
		for who := range sessions {
			picks[at] = who
			from(at + 1)
		}
	}
	from(0)
}

// swapper adds d to cell 0 by swapping, again till it succeeds. Cell own is the session's, since a register goes to another one through a cell alone.
func swapper(own, d int) program {
	return program{
		{Op: api.OpLoad, Cell: 0, A: 0},
		{Op: api.OpStore, Cell: own, A: 0},
		{Op: api.OpLoad, Cell: own, A: 1},
		{Op: api.OpMore, A: 1, B: d},
		{Op: api.OpSwap, Cell: 0, A: 1, B: 0},
		{Op: api.OpZero, A: 0, B: 0},
	}
}

// locker adds d to cell 0 under cell 1's lock.
func locker(d int) program {
	return program{
		{Op: api.OpLock, Cell: 1},
		{Op: api.OpLoad, Cell: 0, A: 2},
		{Op: api.OpMore, A: 2, B: d},
		{Op: api.OpStore, Cell: 0, A: 2},
		{Op: api.OpFree, Cell: 1},
	}
}

// finish lets the machine's sessions come to their ends by fair picks, and answers the first cell.
func finish(t *testing.T, m *sched.Machine) int {
	t.Helper()
	if _, over := m.Fair(100000); !over {
		t.Fatal("fair picks came to no end")
	}
	return m.Cells()[0]
}

// 2.5: whatever the picks, sessions that add by swapping come to the sum; a swap that fails is seen at some of them.
func TestCounting(t *testing.T) {
	failed := false
	for _, c := range []struct {
		n      int
		amount []int
	}{{14, []int{5, 9}}, {14, []int{-5, 5}}, {9, []int{1, 10, 100}}} {
		var l []program
		sum := 0
		for who, d := range c.amount {
			l = append(l, swapper(1+who, d))
			sum += d
		}
		all(c.n, len(l), func(picks []int) {
			m := made(t, 4, l...)
			m.Run(picks...)
			for who := range l {
				failed = failed || m.At(who) == 5 && m.Registers(who)[0] == 0
			}
			if got := finish(t, m); got != sum {
				t.Fatalf("adding %v, picked %v: %d, want %d", c.amount, picks, got, sum)
			}
		})
	}
	same(t, "a swap failed", failed, true)
}

// 2.6: whatever the picks, sessions that add under a lock come to the sum; waiting is seen at some of them.
func TestLocks(t *testing.T) {
	waited := false
	for _, c := range []struct {
		n      int
		amount []int
	}{{12, []int{5, 9}}, {9, []int{1, 10, 100}}} {
		var l []program
		sum := 0
		for _, d := range c.amount {
			l = append(l, locker(d))
			sum += d
		}
		all(c.n, len(l), func(picks []int) {
			m := made(t, 2, l...)
			for _, pick := range picks {
				if m.At(pick) == 0 && m.Holder(1) >= 0 {
					waited = m.Step(pick) && m.At(pick) == 0 || waited
					continue
				}
				m.Step(pick)
			}
			if got := finish(t, m); got != sum || m.Holder(1) != -1 {
				t.Fatalf("adding %v, picked %v: %d, held by %d, want %d", c.amount, picks, got, m.Holder(1), sum)
			}
		})
	}
	same(t, "a session waited", waited, true)
}

// 2.4: each turn is one step: without a lock and without swapping, additions are lost at some picks and not at others.
func TestLostWithoutLocks(t *testing.T) {
	bare := func(d int) program { return locker(d)[1:4] }
	var seen []int
	all(6, 2, func(picks []int) {
		m := made(t, 2, bare(5), bare(9))
		m.Run(picks...)
		if got := finish(t, m); !slices.Contains(seen, got) {
			seen = append(seen, got)
		}
	})
	slices.Sort(seen)
	same(t, "sums", seen, []int{5, 9, 14})
}

// 2.5, 2.6: the most sessions there may be, adding both ways at once.
func TestManyAdd(t *testing.T) {
	var swappers, lockers []program
	for who := range api.MaxSessions {
		swappers = append(swappers, swapper(1+who, 1<<who))
		lockers = append(lockers, locker(1<<who))
	}
	d := dice(3)
	for range 200 {
		a, b := made(t, 1+api.MaxSessions, swappers...), made(t, 2, lockers...)
		for range 300 {
			pick := d.below(api.MaxSessions + 1)
			a.Step(pick)
			b.Step(pick)
		}
		same(t, "sums", answers(finish(t, a), finish(t, b)), answers(1<<api.MaxSessions-1, 1<<api.MaxSessions-1))
	}
}
