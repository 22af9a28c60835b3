package pool

import (
	"slices"
	"testing"

	"postrider/api"
)

// The edges here lie 2^40 calls away: they are told of pools that are set there, not brought there.

// inGenerations makes a pool of three slots of two bytes, of which the first are in these generations.
func inGenerations(t *testing.T, book ...int) *Pool {
	t.Helper()
	p, e := Make(3, 2)
	if e != api.OK {
		t.Fatalf("Make: %d", int(e))
	}
	copy(p.book, book)
	return p
}

// answered holds a number and an error against those that are asked for.
func answered(t *testing.T, what string, n int, e api.Errno, want int, err api.Errno) {
	t.Helper()
	if n != want || e != err {
		t.Errorf("%s: %d, %d, want %d, %d", what, n, int(e), want, int(err))
	}
}

// 5.2, P2: a count may be as great as MaxOffset, and no greater.
func TestGreatestCount(t *testing.T) {
	p := inGenerations(t)
	h, _ := p.Take(1)
	p.Fill(h, 9)
	p.envelopes[0].count = api.MaxOffset - 1
	answered(t, "Keep up to the greatest count", p.Count(0), p.Keep(h), api.MaxOffset-1, api.OK)
	for range 3 {
		answered(t, "Keep above it", p.Count(0), p.Keep(h), api.MaxOffset, api.ErrFull)
	}
	answered(t, "Keep by another handle", 0, p.Keep(h+api.MaxSlots), 0, api.ErrStale)
	b, e := p.Bytes(h)
	if e != api.OK || !slices.Equal(b, []byte{9}) || p.Gen(0) != 0 || !slices.Equal(p.Free(), []int{1, 2}) {
		t.Errorf("behind Keep above it: %v, %d, generation %d, free %v", b, int(e), p.Gen(0), p.Free())
	}
	n, e := p.Drop(h)
	answered(t, "Drop", n, e, api.MaxOffset-1, api.OK)
	answered(t, "Keep again", 0, p.Keep(h), 0, api.OK)
	answered(t, "the count", p.Count(0), api.OK, api.MaxOffset, api.OK)
}

// 5.1, 5.2: the last generation is taken, filled, read, kept and dropped as any other.
func TestLastGeneration(t *testing.T) {
	last := api.MaxOffset - 1
	p := inGenerations(t, last-1)
	elder, e := p.Take(2)
	answered(t, "Take of the last generation but one", elder, e, (last-1)*api.MaxSlots+1, api.OK)
	n, e := p.Drop(elder)
	answered(t, "Drop of it", n, e, 0, api.OK)
	h, e := p.Take(2)
	answered(t, "Take of the last generation", h, e, elder+api.MaxSlots, api.OK)
	answered(t, "its generation, and Fill", p.Gen(0), p.Fill(h, 3, 4), last, api.OK)
	b, e := p.Bytes(h)
	if e != api.OK || !slices.Equal(b, []byte{3, 4}) {
		t.Errorf("Bytes: %v, %d", b, int(e))
	}
	answered(t, "Keep", 0, p.Keep(h), 0, api.OK)
	answered(t, "Keep by the elder handle", 0, p.Keep(elder), 0, api.ErrStale)
	for want := 1; want >= 0; want-- {
		n, e := p.Drop(h)
		answered(t, "Drop of the last generation", n, e, want, api.OK)
	}
	n, e = p.Drop(h)
	answered(t, "Drop behind its last count", n, e, 0, api.ErrStale)
}

// 5.4, 5.5: a slot behind its last generation is free, and has no handle: it is never taken again, and the others are.
func TestBehindTheLastGeneration(t *testing.T) {
	p := inGenerations(t, api.MaxOffset-1, 5, api.MaxOffset-1)
	h, _ := p.Take(1)
	p.Drop(h)
	if p.Count(0) != 0 || p.Gen(0) != api.MaxOffset || !slices.Equal(p.Free(), []int{0, 1, 2}) {
		t.Errorf("behind it: count %d, generation %d, free %v", p.Count(0), p.Gen(0), p.Free())
	}
	for _, slot := range []int{1, 2} {
		n, e := p.Take(1)
		answered(t, "Take of the next one below", n, e, p.Gen(slot)*api.MaxSlots+slot+1, api.OK)
	}
	n, e := p.Take(1)
	answered(t, "Take with none below", n, e, 0, api.ErrPool)
	answered(t, "Keep of the last handle that was", 0, p.Keep(h), 0, api.ErrStale)
	answered(t, "Keep of no handle", 0, p.Keep(api.MaxOffset*api.MaxSlots+1), 0, api.ErrArg)
	n, e = p.Drop(5*api.MaxSlots + 2)
	answered(t, "Drop of another one", n, e, 0, api.OK)
	if !slices.Equal(p.Free(), []int{1, 0}) {
		t.Errorf("free ones: %v", p.Free())
	}
	n, e = p.Take(1)
	answered(t, "Take of it again", n, e, 6*api.MaxSlots+2, api.OK)
}
