package part_test

import (
	"math"
	"reflect"
	"testing"
	"unsafe"

	"postrider/api"
	"postrider/part"
	"postrider/pool"
)

// The greatest tail, count and generation lie 2^40 calls away: the rings and pools here are set there, not brought there. They are other packages' own, so that the fields have to be found by their names.

// set gives a field, one that is not exported too, a number.
func set(t *testing.T, field reflect.Value, n int) {
	t.Helper()
	if !field.IsValid() || field.Kind() != reflect.Int {
		t.Fatal("the field that this test sets has another name, or kind")
	}
	reflect.NewAt(field.Type(), unsafe.Pointer(field.UnsafeAddr())).Elem().SetInt(int64(n))
}

// headAt moves the head of an empty window.
func headAt(t *testing.T, x *part.Part, head int) {
	t.Helper()
	set(t, reflect.ValueOf(x.Ring).Elem().FieldByName("head"), head)
}

// countAt makes the count of a pool's slot another one.
func countAt(t *testing.T, p *pool.Pool, slot, count int) {
	t.Helper()
	set(t, reflect.ValueOf(p).Elem().FieldByName("envelopes").Index(slot).FieldByName("count"), count)
}

// genAt makes the generation of a pool's slot another one.
func genAt(t *testing.T, p *pool.Pool, slot, gen int) {
	t.Helper()
	set(t, reflect.ValueOf(p).Elem().FieldByName("book").Index(slot), gen)
}

// 12.1, P2: the last place is the one ahead of MaxOffset; behind it none is claimed any more. ErrFull comes behind ErrArg and ErrLong.
func TestGreatestTail(t *testing.T) {
	for _, policy := range policies {
		p := pooled(t, 4, 2)
		x := made(t, p, 3, policy)
		headAt(t, x, api.MaxOffset-2)
		for i := range 2 {
			at, h := filled(t, x, byte(i))
			same(t, "place", answers(at, h), answers(api.MaxOffset-2+i, i+1))
		}
		for range 2 { // not published, and published
			unclaimed(t, p, x, 1, api.ErrFull)
			unclaimed(t, p, x, 0, api.ErrFull)
			unclaimed(t, p, x, -1, api.ErrArg)
			unclaimed(t, p, x, 3, api.ErrLong)
			x.Publish(api.MaxOffset - 2)
			x.Publish(api.MaxOffset - 1)
		}
		unread(t, p, x, api.MaxOffset-3, api.ErrWindow)
		unread(t, p, x, api.MaxOffset, api.ErrNone)
		unread(t, p, x, math.MaxInt, api.ErrNone)
		peeks(t, x, api.MaxOffset-1, 1)
		untrimmed(t, p, x, api.MaxOffset+1, api.ErrArg)
		trimmed(t, x, api.MaxOffset, 2)
		window(t, x, api.MaxOffset, api.MaxOffset, api.MaxOffset)
		unclaimed(t, p, x, 1, api.ErrFull)
	}
}

// 12.1: ErrFull comes ahead of ErrRing and of ErrPool, and no place goes.
func TestGreatestTailOfAFullWindow(t *testing.T) {
	for _, policy := range policies {
		for _, slots := range []int{1, 2} {
			p := pooled(t, slots, 2)
			x := made(t, p, 1, policy)
			headAt(t, x, api.MaxOffset-1)
			claimed(t, x, 2)
			unclaimed(t, p, x, 2, api.ErrFull)
			x.Publish(api.MaxOffset - 1)
			unclaimed(t, p, x, 2, api.ErrFull)
			read(t, x, api.MaxOffset-1)
			unclaimed(t, p, x, 2, api.ErrFull)
			trimmed(t, x, api.MaxOffset, 1)
			unclaimed(t, p, x, 2, api.ErrFull)
		}
	}
}

// 12.1: a full window whose tail is one less lets its head's place go as any other does.
func TestGreatestTailButOne(t *testing.T) {
	p := pooled(t, 1, 1)
	x := made(t, p, 1, api.Over)
	headAt(t, x, api.MaxOffset-2)
	claimed(t, x, 1)
	unclaimed(t, p, x, 1, api.ErrRing)
	x.Publish(api.MaxOffset - 2)
	at, h := published(t, x, 7)
	same(t, "the last place", answers(at, h), answers(api.MaxOffset-1, of(0, 1)))
	unclaimed(t, p, x, 1, api.ErrFull)
	peeks(t, x, api.MaxOffset-1, 7)
}

// 12.2: Read answers ErrFull for a count of MaxOffset; a Peek counts nothing.
func TestGreatestCount(t *testing.T) {
	p := pooled(t, 2, 1)
	x := made(t, p, 2, api.Over)
	published(t, x, 5)
	claimed(t, x, 1)
	countAt(t, p, 0, api.MaxOffset-1)
	same(t, "Read", read(t, x, 0), 1)
	was := told(p, x)
	h, e := x.Read(0)
	same(t, "Read above it", answers(h, e), answers(0, api.ErrFull))
	same(t, "what is told behind what was refused", told(p, x), was)
	peeks(t, x, 0, 5)
	if _, e := x.Read(1); e != api.ErrBusy { // the ring's errors come ahead
		t.Errorf("Read(1): %d", int(e))
	}
	counts(t, p, api.MaxOffset, 1)
	dropped(t, p, 1, api.MaxOffset-1)
	same(t, "Read below it", read(t, x, 0), 1)
}

// P1, P2: a slot behind its last generation is no envelope that a claim could take, and the head's place does not go for it.
func TestLastGeneration(t *testing.T) {
	p := pooled(t, 2, 1)
	genAt(t, p, 0, api.MaxOffset-1)
	x := made(t, p, 1, api.Over)
	_, h := published(t, x, 5)
	same(t, "the last handle", h, of(0, api.MaxOffset-1))
	y := made(t, p, 1, api.Over)
	published(t, y, 6)
	unclaimed(t, p, x, 1, api.ErrPool) // it would be free, and nobody could take it
	trimmed(t, x, 1, 1)
	same(t, "free ones", p.Free(), []int{0})
	unclaimed(t, p, x, 1, api.ErrPool)
	at, h := published(t, y, 7)
	same(t, "another slot's", answers(at, h), answers(1, of(1, 1)))
	trimmed(t, y, 2, 1)
	at, h = claimed(t, x, 1)
	same(t, "another slot's", answers(at, h), answers(1, of(1, 2)))
}
