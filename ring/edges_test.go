package ring

import (
	"math"
	"slices"
	"testing"

	"postrider/api"
)

// The greatest tail lies 2^40 calls away: the rings here are set there, not brought there.

// headAt makes a ring with an empty window at an offset.
func headAt(t *testing.T, room, policy, head int) *Ring {
	t.Helper()
	r, e := Make(room, policy)
	if e != api.OK {
		t.Fatalf("Make: %d", int(e))
	}
	r.head = head
	return r
}

// claims holds a Claim against what it is to answer.
func claims(t *testing.T, r *Ring, ref, at, went int, want api.Errno) {
	t.Helper()
	gotAt, gotWent, e := r.Claim(ref)
	if gotAt != at || gotWent != went || e != want {
		t.Errorf("Claim(%d): %d, %d, %d, want %d, %d, %d", ref, gotAt, gotWent, int(e), at, went, int(want))
	}
}

// window holds a ring's window against what it is to be.
func window(t *testing.T, r *Ring, head, tail int, refs ...int) {
	t.Helper()
	if r.Head() != head || r.Tail() != tail || !slices.Equal(r.Refs(), refs) {
		t.Errorf("window %d, %d, %v, want %d, %d, %v", r.Head(), r.Tail(), r.Refs(), head, tail, refs)
	}
}

// 6.1, P2: the last place is the one ahead of MaxOffset; behind it none is claimed any more, under both policies.
func TestGreatestTail(t *testing.T) {
	for _, policy := range []int{api.Block, api.Over} {
		first := api.MaxOffset - 2
		r := headAt(t, 3, policy, first)
		claims(t, r, 5, first, 0, api.OK)
		claims(t, r, 6, first+1, 0, api.OK)
		for range 3 {
			claims(t, r, 7, 0, 0, api.ErrFull)
			window(t, r, first, api.MaxOffset, 5, 6)
		}
		claims(t, r, 0, 0, 0, api.ErrArg) // ahead of ErrFull
		if e := r.Publish(first); e != api.OK {
			t.Errorf("Publish: %d", int(e))
		}
		claims(t, r, 7, 0, 0, api.ErrFull)
		gone, e := r.Trim(first + 1)
		if !slices.Equal(gone, []int{5}) || e != api.OK {
			t.Errorf("Trim: %v, %d", gone, int(e))
		}
		claims(t, r, 7, 0, 0, api.ErrFull)
		window(t, r, first+1, api.MaxOffset, 6)
	}
}

// 6.1: of a full ring at the greatest tail ErrFull comes ahead of ErrRing, and its head's place does not go.
func TestGreatestTailOfAFullRing(t *testing.T) {
	for _, policy := range []int{api.Block, api.Over} {
		for _, published := range []bool{false, true} {
			first := api.MaxOffset - 2
			r := headAt(t, 2, policy, first)
			claims(t, r, 5, first, 0, api.OK)
			claims(t, r, 6, first+1, 0, api.OK)
			if published {
				r.Publish(first)
				r.Publish(first + 1)
			}
			claims(t, r, 7, 0, 0, api.ErrFull)
			claims(t, r, -1, 0, 0, api.ErrArg)
			window(t, r, first, api.MaxOffset, 5, 6)
		}
	}
}

// 6.1: a full ring whose tail is one less lets its head's place go as any other does.
func TestGreatestTailButOne(t *testing.T) {
	r := headAt(t, 1, api.Over, api.MaxOffset-2)
	claims(t, r, 5, api.MaxOffset-2, 0, api.OK)
	claims(t, r, 6, 0, 0, api.ErrRing)
	r.Publish(api.MaxOffset - 2)
	claims(t, r, 6, api.MaxOffset-1, 5, api.OK)
	window(t, r, api.MaxOffset-1, api.MaxOffset, 6)
	r.Publish(api.MaxOffset - 1)
	claims(t, r, 7, 0, 0, api.ErrFull)
	if ref, e := r.Get(api.MaxOffset - 1); ref != 6 || e != api.OK {
		t.Errorf("Get: %d, %d", ref, int(e))
	}
}

// 6.1 to 6.3: at the greatest tail all else is as anywhere.
func TestCallsAtTheGreatestTail(t *testing.T) {
	r := headAt(t, 3, api.Block, api.MaxOffset-3)
	for ref := range 3 {
		claims(t, r, ref+1, api.MaxOffset-3+ref, 0, api.OK)
	}
	for _, c := range []struct {
		at   int
		want api.Errno
	}{{-1, api.ErrArg}, {0, api.ErrWindow}, {api.MaxOffset - 4, api.ErrWindow}, {api.MaxOffset - 3, api.OK}, {api.MaxOffset - 3, api.ErrSame}, {api.MaxOffset - 1, api.OK}, {api.MaxOffset, api.ErrNone}, {api.MaxOffset + 1, api.ErrNone}, {math.MaxInt, api.ErrNone}} {
		if e := r.Publish(c.at); e != c.want {
			t.Errorf("Publish(%d): %d, want %d", c.at, int(e), int(c.want))
		}
	}
	for from, want := range map[int]int{math.MinInt: api.MaxOffset - 2, 0: api.MaxOffset - 2, api.MaxOffset - 2: api.MaxOffset - 2, api.MaxOffset - 1: api.MaxOffset, api.MaxOffset: api.MaxOffset, math.MaxInt: api.MaxOffset} {
		if at := r.Ready(from); at != want {
			t.Errorf("Ready(%d): %d, want %d", from, at, want)
		}
	}
	for _, c := range []struct {
		to   int
		gone []int
		want api.Errno
	}{{math.MinInt, nil, api.ErrArg}, {api.MaxOffset + 1, nil, api.ErrArg}, {math.MaxInt, nil, api.ErrArg}, {api.MaxOffset, nil, api.ErrBusy}, {0, nil, api.OK}, {api.MaxOffset - 2, []int{1}, api.OK}} {
		if gone, e := r.Trim(c.to); !slices.Equal(gone, c.gone) || e != c.want {
			t.Errorf("Trim(%d): %v, %d, want %v, %d", c.to, gone, int(e), c.gone, int(c.want))
		}
	}
	r.Publish(api.MaxOffset - 2)
	if gone, e := r.Trim(api.MaxOffset); !slices.Equal(gone, []int{2, 3}) || e != api.OK {
		t.Errorf("Trim to the greatest tail: %v, %d", gone, int(e))
	}
	window(t, r, api.MaxOffset, api.MaxOffset)
	claims(t, r, 9, 0, 0, api.ErrFull)
}
