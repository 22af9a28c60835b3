package cursor_test

import (
	"fmt"
	"math"
	"testing"

	"postrider/api"
	"postrider/cursor"
	"postrider/ring"
)

var policies = []int{api.Block, api.Over}

// unmade are the rings that no call made.
func unmade() map[string]*ring.Ring {
	return map[string]*ring.Ring{"nil": nil, "plain": {}, "new": new(ring.Ring)}
}

func made(t *testing.T, room, policy int) *ring.Ring {
	t.Helper()
	r, e := ring.Make(room, policy)
	if r == nil || e != api.OK {
		t.Fatalf("Make(%d, %d): %v, %d, want a ring", room, policy, r, int(e))
	}
	return r
}

// claimed claims a place and is its offset.
func claimed(t *testing.T, r *ring.Ring, ref int) int {
	t.Helper()
	at, _, e := r.Claim(ref)
	if e != api.OK {
		t.Fatalf("Claim(%d): %d", ref, int(e))
	}
	return at
}

func published(t *testing.T, r *ring.Ring, at int) {
	t.Helper()
	if e := r.Publish(at); e != api.OK {
		t.Fatalf("Publish(%d): %d", at, int(e))
	}
}

func trimmed(t *testing.T, r *ring.Ring, to int) {
	t.Helper()
	if _, e := r.Trim(to); e != api.OK {
		t.Fatalf("Trim(%d): %d", to, int(e))
	}
}

// refAt is the reference that the place at an offset gets here: one that no offset near it is.
func refAt(at int) int { return 500 + 7*at }

// filled is a ring whose window has its head at an offset, and then these places; true: it is published.
func filled(t *testing.T, room, policy, head int, places ...bool) *ring.Ring {
	t.Helper()
	r := made(t, room, policy)
	for at := range head {
		published(t, r, claimed(t, r, refAt(at)))
		trimmed(t, r, at+1)
	}
	for _, is := range places {
		if at := claimed(t, r, refAt(r.Tail())); is {
			published(t, r, at)
		}
	}
	return r
}

// masks are all ways to have so many places published or not.
func masks(places int) [][]bool {
	list := [][]bool{}
	for mask := range 1 << places {
		is := make([]bool, places)
		for i := range is {
			is[i] = mask>>i&1 == 1
		}
		list = append(list, is)
	}
	return list
}

// told is all that calls tell of a ring.
func told(r *ring.Ring) string {
	s := fmt.Sprint(r.Room(), r.Head(), r.Tail(), r.Refs())
	for at := r.Head() - 2; at < r.Tail()+2; at++ {
		ref, e := r.Get(at)
		s += fmt.Sprint(" ", ref, int(e), r.Ready(at))
	}
	return s
}

// lost holds what Lost answers against what it is to, and that the ring stays as it is.
func lost(t *testing.T, at int, r *ring.Ring, want api.Span, err api.Errno) {
	t.Helper()
	was := told(r)
	got, e := cursor.Lost(at, r)
	same(t, fmt.Sprint("Lost(", at, ")"), answers(got, e), answers(want, err))
	same(t, "the ring behind Lost", told(r), was)
}

// next holds what Next answers against what it is to, and that the ring stays as it is.
func next(t *testing.T, at int, r *ring.Ring, ref, behind int, err api.Errno) {
	t.Helper()
	was := told(r)
	gotRef, gotBehind, e := cursor.Next(at, r)
	same(t, fmt.Sprint("Next(", at, ")"), answers(gotRef, gotBehind, e), answers(ref, behind, err))
	same(t, "the ring behind Next", told(r), was)
}

// 7.2: of each small ring, whichever of its places are published, and each cursor: offset by offset, as the words say it.
func TestLostAndNext(t *testing.T) {
	for _, policy := range policies {
		for _, head := range []int{0, 1, 4} {
			for places := range 5 {
				for _, is := range masks(places) {
					r := filled(t, 4, policy, head, is...)
					for at := range head + places + 1 {
						moved, went := at, api.Span{}
						if at < head {
							moved, went = head, api.Span{From: at, To: head}
						}
						lost(t, at, r, went, api.OK)
						switch {
						case moved == head+places:
							next(t, at, r, 0, moved, api.ErrNone)
						case is[moved-head]:
							next(t, at, r, refAt(moved), moved+1, api.OK)
						default:
							next(t, at, r, 0, moved, api.ErrBusy)
						}
					}
				}
			}
		}
	}
}

// 7.2, P1: cursors below 0, and above the tail, come ahead of what stands, or does not, in their place.
func TestRingErrArg(t *testing.T) {
	for _, policy := range policies {
		for _, head := range []int{0, 1, 4} {
			for places := range 4 {
				for _, is := range masks(places) {
					r := filled(t, 3, policy, head, is...)
					for _, at := range []int{math.MinInt, math.MinInt + 1, -api.MaxOffset, -2, -1} {
						lost(t, at, r, api.Span{}, api.ErrArg)
						next(t, at, r, 0, 0, api.ErrArg)
					}
					for _, by := range []int{1, 2, 3, api.MaxRing, api.MaxOffset} {
						lost(t, r.Tail()+by, r, api.Span{}, api.ErrArg)
						next(t, r.Tail()+by, r, 0, 0, api.ErrArg)
					}
					lost(t, math.MaxInt, r, api.Span{}, api.ErrArg)
					next(t, math.MaxInt, r, 0, 0, api.ErrArg)
				}
			}
		}
	}
}

// 7.2, P1: of a ring that no call made, ErrNil comes ahead of ErrArg, and of what the ring answers.
func TestNoRing(t *testing.T) {
	for name, r := range unmade() {
		for range 2 {
			for _, at := range anywhere {
				span, e := cursor.Lost(at, r)
				ref, behind, f := cursor.Next(at, r)
				same(t, fmt.Sprint(name, " ring, ", at), answers(span, e, ref, behind, f), answers(api.Span{}, api.ErrNil, 0, 0, api.ErrNil))
			}
		}
		if r != nil {
			same(t, name, answers(r.Room(), r.Head(), r.Tail(), len(r.Refs()), r.Publish(0)), answers(0, 0, 0, 0, api.ErrNil))
		}
	}
}

// 7.2: an empty ring has nothing yet: as it is made, and behind all that went.
func TestEmptyRing(t *testing.T) {
	for _, policy := range policies {
		for _, room := range []int{1, 2, api.MaxRing} {
			r := made(t, room, policy)
			lost(t, 0, r, api.Span{}, api.OK)
			next(t, 0, r, 0, 0, api.ErrNone)
			next(t, 1, r, 0, 0, api.ErrArg)
			r = filled(t, room, policy, 5)
			for at := range 5 {
				lost(t, at, r, api.Span{From: at, To: 5}, api.OK)
				next(t, at, r, 0, 5, api.ErrNone)
			}
			lost(t, 5, r, api.Span{}, api.OK)
			next(t, 5, r, 0, 5, api.ErrNone)
		}
	}
}

// 7.2, 7.4: a full ring that blocks refuses, whoever reads, and loses nothing; reading makes no room.
func TestFullRingThatBlocks(t *testing.T) {
	for _, room := range []int{1, 2, 3, api.MaxRing} {
		r := made(t, room, api.Block)
		for at := range room {
			published(t, r, claimed(t, r, refAt(at)))
		}
		for at := range room {
			lost(t, at, r, api.Span{}, api.OK)
			next(t, at, r, refAt(at), at+1, api.OK)
			if _, _, e := r.Claim(1); e != api.ErrRing {
				t.Errorf("Claim behind what was read: %d, want ErrRing", int(e))
			}
		}
		next(t, room, r, 0, room, api.ErrNone)
		for range 2 {
			next(t, 0, r, refAt(0), 1, api.OK)
		}
	}
}

// 7.2, 7.4: of a full ring whose eldest places go, what went is lost, by one and by many.
func TestFullRingThatGoesOver(t *testing.T) {
	for _, room := range []int{1, 2, 3, api.MaxRing} {
		r := made(t, room, api.Over)
		for at := range 3 * room {
			published(t, r, claimed(t, r, refAt(at)))
		}
		head := 2 * room
		for at := range head {
			lost(t, at, r, api.Span{From: at, To: head}, api.OK)
			next(t, at, r, refAt(head), head+1, api.OK)
		}
		for at := head; at < 3*room; at++ {
			lost(t, at, r, api.Span{}, api.OK)
			next(t, at, r, refAt(at), at+1, api.OK)
		}
		next(t, 3*room, r, 0, 3*room, api.ErrNone)
	}
}

// 7.2, 7.4: a place that is not published stops a reader, though those behind it are published, till it is; also one who was moved to it.
func TestNextIsNotPublished(t *testing.T) {
	for _, policy := range policies {
		r := filled(t, 4, policy, 3, true, false, true)
		next(t, 3, r, refAt(3), 4, api.OK)
		for range 2 {
			lost(t, 4, r, api.Span{}, api.OK)
			next(t, 4, r, 0, 4, api.ErrBusy)
		}
		next(t, 5, r, refAt(5), 6, api.OK)
		trimmed(t, r, 4)
		lost(t, 1, r, api.Span{From: 1, To: 4}, api.OK)
		next(t, 1, r, 0, 4, api.ErrBusy)
		published(t, r, 4)
		next(t, 1, r, refAt(4), 5, api.OK)
		next(t, 4, r, refAt(4), 5, api.OK)
	}
}

// 7.4: a reader who is away while the head moves is told what it lost, and goes on behind it.
func TestReaderThatWasAway(t *testing.T) {
	r := filled(t, 3, api.Over, 0, true, true, true)
	next(t, 0, r, refAt(0), 1, api.OK)
	for at := 3; at < 7; at++ {
		published(t, r, claimed(t, r, refAt(at)))
	}
	lost(t, 1, r, api.Span{From: 1, To: 4}, api.OK)
	next(t, 1, r, refAt(4), 5, api.OK)
	lost(t, 5, r, api.Span{}, api.OK)
	next(t, 5, r, refAt(5), 6, api.OK)
	next(t, 6, r, refAt(6), 7, api.OK)
	next(t, 7, r, 0, 7, api.ErrNone)
	trimmed(t, r, 7)
	lost(t, 6, r, api.Span{From: 6, To: 7}, api.OK)
	next(t, 6, r, 0, 7, api.ErrNone)
	lost(t, 7, r, api.Span{}, api.OK)
	claimed(t, r, refAt(7))
	next(t, 7, r, 0, 7, api.ErrBusy)
	next(t, 2, r, 0, 7, api.ErrBusy)
}

// 7.2: a place whose reference is another one's, or any number from 1 on, is told as it was claimed.
func TestAnyReference(t *testing.T) {
	r := made(t, 4, api.Block)
	refs := []int{1, math.MaxInt, 1, api.MaxOffset + 1}
	for at, ref := range refs {
		published(t, r, claimed(t, r, ref))
		next(t, at, r, ref, at+1, api.OK)
	}
	for at, ref := range refs {
		next(t, at, r, ref, at+1, api.OK)
	}
}

// 7.2: a cursor in a ring is as one in its window.
func TestRingIsAsItsWindow(t *testing.T) {
	for _, policy := range policies {
		for _, head := range []int{0, 1, 4} {
			for places := range 4 {
				for _, is := range masks(places) {
					r := filled(t, 3, policy, head, is...)
					for _, at := range anywhere {
						moved, went, e := cursor.Move(at, r.Head(), r.Tail())
						lost(t, at, r, went, e)
						if e != api.OK {
							continue
						}
						ref, f := r.Get(moved)
						if f == api.OK {
							moved++
						}
						next(t, at, r, ref, moved, f)
					}
				}
			}
		}
	}
}
