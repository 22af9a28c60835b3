// Package cell is layer 1: numbers that are read, stored, swapped and added to, and locks.
package cell

import (
	"iter"

	"postrider/api"
)

// nobody is not 0, since 0 is a session.
const nobody = -1

// state is kept a value, so that what goes through the cells cannot change them.
type state struct {
	number int
	holder int
	writes int
}

// Memory has its cells from Make or Copy alone: one without any was made by no call.
type Memory struct {
	cells []state
}

// Make makes a memory of n cells that are 0 and that nobody has locked.
func Make(n int) (*Memory, api.Errno) {
	if n < 1 || n > api.MaxCells {
		return nil, api.ErrArg
	}
	m := &Memory{cells: make([]state, n)}
	for at := range m.cells {
		m.cells[at].holder = nobody
	}
	return m, api.OK
}

// Load answers the cell's number.
func (m *Memory) Load(at int) (int, api.Errno) {
	if e := m.refuse(at); e != api.OK {
		return 0, e
	}
	return m.cells[at].number, api.OK
}

// Store makes the cell's number v.
func (m *Memory) Store(at, v int) api.Errno {
	if e := m.refuse(at); e != api.OK {
		return e
	}
	m.write(at, v)
	return api.OK
}

// Swap makes the cell's number v, if it is was, and answers whether it did.
func (m *Memory) Swap(at, was, v int) (bool, api.Errno) {
	if e := m.refuse(at); e != api.OK {
		return false, e
	}
	if m.cells[at].number != was {
		return false, api.OK
	}
	m.write(at, v)
	return true, api.OK
}

// Add makes the cell's number d more, gone round within 64 bits, and answers what it was.
func (m *Memory) Add(at, d int) (int, api.Errno) {
	if e := m.refuse(at); e != api.OK {
		return 0, e
	}
	was := m.cells[at].number
	m.write(at, was+d)
	return was, api.OK
}

// Lock gives the cell to a session. A session that has it already is refused as any other is: its locks are not counted.
func (m *Memory) Lock(at, who int) api.Errno {
	if e := m.refuseSession(at, who); e != api.OK {
		return e
	}
	if m.cells[at].holder != nobody {
		return api.ErrBusy
	}
	m.cells[at].holder = who
	return api.OK
}

// Free takes the cell from the session that has it locked.
func (m *Memory) Free(at, who int) api.Errno {
	if e := m.refuseSession(at, who); e != api.OK {
		return e
	}
	if m.cells[at].holder != who {
		return api.ErrNone
	}
	m.cells[at].holder = nobody
	return api.OK
}

// Holder answers who has the cell locked; -1: nobody, or no such cell.
func (m *Memory) Holder(at int) int {
	switch m.refuse(at) {
	case api.OK:
		return m.cells[at].holder
	case api.ErrNil: // a memory that no call made answers zero values, here too
		return 0
	}
	return nobody
}

// Writes answers how many times the cell was written; 0 of no such cell.
func (m *Memory) Writes(at int) int {
	if m.refuse(at) != api.OK {
		return 0
	}
	return m.cells[at].writes
}

// All answers all numbers, in the cells' order.
func (m *Memory) All() []int {
	if !m.made() {
		return nil
	}
	numbers := make([]int, 0, len(m.cells))
	for c := range m.each() {
		numbers = append(numbers, c.number)
	}
	return numbers
}

// Copy answers a memory of its own, with the same numbers, locks and counts of writes; nil of none.
func (m *Memory) Copy() *Memory {
	if !m.made() {
		return nil
	}
	other := &Memory{cells: make([]state, 0, len(m.cells))}
	for c := range m.each() {
		other.cells = append(other.cells, c)
	}
	return other
}

// each goes through the cells, the first one first.
func (m *Memory) each() iter.Seq[state] {
	return func(yield func(state) bool) {
		for _, c := range m.cells {
			if !yield(c) {
				return
			}
		}
	}
}

// write is the only way by which a number changes, so that none goes uncounted.
func (m *Memory) write(at, v int) {
	m.cells[at].number = v
	m.cells[at].writes++
}

func (m *Memory) made() bool { return m != nil && len(m.cells) > 0 }

// refuse tells why there is no cell to do something with: of a memory that no call made ahead of all else.
func (m *Memory) refuse(at int) api.Errno {
	if !m.made() {
		return api.ErrNil
	}
	if at < 0 || at >= len(m.cells) {
		return api.ErrArg
	}
	return api.OK
}

// refuseSession is refuse for the calls that a session makes under its number.
func (m *Memory) refuseSession(at, who int) api.Errno {
	if e := m.refuse(at); e != api.OK {
		return e
	}
	if who < 0 || who >= api.MaxSessions {
		return api.ErrArg
	}
	return api.OK
}
