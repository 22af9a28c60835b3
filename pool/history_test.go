package pool_test

import (
	"bytes"
	"fmt"
	"slices"
	"testing"

	"postrider/api"
	"postrider/pool"
)

// plainSlot is a slot as the document's words say it.
type plainSlot struct {
	gen, count int
	bytes      []byte
}

// plain is a pool as the document's words say it, to hold the program's against. The top of its stack is the first.
type plain struct {
	size  int
	slots []plainSlot
	stack []int
}

// act is one call, by its name, its number (of bytes, or a handle), and its bytes.
type act struct {
	call  string
	n     int
	bytes []byte
}

func plainPool(slots, size int) *plain {
	return &plain{size: size, slots: make([]plainSlot, slots), stack: rising(0, slots)}
}

func (p *plain) take(n int) (int, int) {
	switch {
	case n < 0:
		return 0, 2
	case n > p.size:
		return 0, 3
	case len(p.stack) == 0:
		return 0, 50
	}
	slot := p.stack[0]
	p.stack = p.stack[1:]
	p.slots[slot].count, p.slots[slot].bytes = 1, make([]byte, n)
	return 128*p.slots[slot].gen + slot + 1, 0
}

// fault is the number of the error that the handle meets; 0: it is live.
func (p *plain) fault(h int) int {
	if h < 1 || h > 128<<40 {
		return 2
	}
	slot, gen := (h-1)%128, (h-1)/128
	if slot >= len(p.slots) {
		return 5
	}
	if p.slots[slot].gen != gen || p.slots[slot].count == 0 {
		return 40
	}
	return 0
}

// do is what the document says that the call answers: a number, bytes, and an error's number.
func (p *plain) do(c act) (int, []byte, int) {
	if c.call == "take" {
		h, e := p.take(c.n)
		return h, nil, e
	}
	if e := p.fault(c.n); e != 0 {
		return 0, nil, e
	}
	slot := (c.n - 1) % 128
	s := &p.slots[slot]
	switch c.call {
	case "fill":
		if len(c.bytes) != len(s.bytes) {
			return 0, nil, 2
		}
		s.bytes = bytes.Clone(c.bytes)
	case "keep":
		s.count++
	case "drop":
		s.count--
		if s.count == 0 {
			s.gen, s.bytes = s.gen+1, nil
			p.stack = append([]int{slot}, p.stack...)
		}
		return s.count, nil, 0
	case "bytes":
		return 0, s.bytes, 0
	}
	return 0, nil, 0
}

// done is the program's answer to the call, in the same form.
func done(p *pool.Pool, c act) (n int, b []byte, err int) {
	e := api.OK
	switch c.call {
	case "take":
		n, e = p.Take(c.n)
	case "fill":
		e = p.Fill(c.n, c.bytes...)
	case "keep":
		e = p.Keep(c.n)
	case "drop":
		n, e = p.Drop(c.n)
	case "bytes":
		b, e = p.Bytes(c.n)
	}
	return n, b, int(e)
}

// differs is where a pool is not as the plain one; "": nowhere.
func (p *plain) differs(q *pool.Pool) string {
	if q.Slots() != len(p.slots) || q.Size() != p.size || !slices.Equal(q.Free(), p.stack) {
		return fmt.Sprint("slots, size, free ones: ", q.Slots(), q.Size(), q.Free(), ", want ", len(p.slots), p.size, p.stack)
	}
	for slot, s := range p.slots {
		b, e := q.Bytes(128*s.gen + slot + 1)
		if q.Count(slot) != s.count || q.Gen(slot) != s.gen || !bytes.Equal(b, s.bytes) || (e == api.OK) != (s.count > 0) {
			return fmt.Sprint("slot ", slot, ": ", q.Count(slot), q.Gen(slot), b, int(e), ", want ", s)
		}
	}
	return ""
}

// hold does a call of both pools, and holds one's answer against the other's.
func hold(t *testing.T, p *plain, q *pool.Pool, c act, past []act) {
	t.Helper()
	n, b, e := done(q, c)
	wantN, wantB, wantE := p.do(c)
	if n != wantN || !bytes.Equal(b, wantB) || e != wantE {
		t.Fatalf("%v behind %v: %d, %v, %d, want %d, %v, %d", c, past, n, b, e, wantN, wantB, wantE)
	}
}

// 5.1 to 5.7, P1, P2: each history of five calls, on two slots of two bytes, answers and leaves what the document's words say.
func TestHistories(t *testing.T) {
	acts := []act{
		{"take", 1, nil}, {"take", 2, nil}, {"take", 3, nil},
		{"drop", 1, nil}, {"drop", 2, nil}, {"drop", 129, nil}, {"drop", 3, nil},
		{"keep", 1, nil}, {"keep", 129, nil},
		{"fill", 1, []byte{5}}, {"fill", 2, []byte{6, 7}}, {"fill", 129, []byte{8}},
		{"bytes", 1, nil}, {"bytes", 0, nil},
	}
	all := 1
	for range 5 {
		all *= len(acts)
	}
	for history := range all { // its digits are its calls
		p, q := plainPool(2, 2), made(t, 2, 2)
		past := make([]act, 0, 5)
		for rest := history; len(past) < cap(past); rest /= len(acts) {
			c := acts[rest%len(acts)]
			hold(t, p, q, c, past)
			past = append(past, c)
		}
		if d := p.differs(q); d != "" { // what is behind fewer calls, another history ends with
			t.Fatalf("behind %v: %s", past, d)
		}
	}
}

// chosen answers a call of a plain pool by a rule that below picks by: most by handles that are live, some by others, some with wrong numbers of bytes.
func chosen(p *plain, below func(int) int) act {
	slot := below(len(p.slots) + 1) // one more than there are
	c := act{n: 128*below(3) + slot + 1}
	length := below(p.size + 2)
	if slot < len(p.slots) && below(5) > 0 {
		c.n = 128*p.slots[slot].gen + slot + 1
		length = len(p.slots[slot].bytes)
	}
	switch below(6) {
	case 0, 1:
		return act{call: "take", n: below(p.size+3) - 1}
	case 2:
		c.call = "keep"
	case 3:
		c.call, c.bytes = "fill", letters(length, byte(below(256)))
	default:
		c.call = "drop"
	}
	return c
}

// 5.1 to 5.7, P1, P2: long histories from a fixed rule, on pools of few and of many slots.
func TestLongHistories(t *testing.T) {
	for _, c := range []struct{ slots, size, calls int }{{1, 1, 5000}, {2, 3, 5000}, {5, 8, 5000}, {64, 16, 2000}, {api.MaxSlots, api.MaxSize, 2000}} {
		p, q := plainPool(c.slots, c.size), made(t, c.slots, c.size)
		seed := uint32(7)
		below := func(n int) int {
			seed = seed*1664525 + 1013904223
			return int(seed>>8) % n
		}
		past := []act{}
		for range c.calls {
			a := chosen(p, below)
			hold(t, p, q, a, past)
			past = append(past, a)
			if d := p.differs(q); d != "" {
				t.Fatalf("behind %v: %s", past, d)
			}
		}
	}
}
