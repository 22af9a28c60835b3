package ring_test

import (
	"fmt"
	"math"
	"slices"
	"testing"

	"postrider/api"
	"postrider/ring"
)

// The numbers that the document's limits, and the machine's, set apart.
var (
	policies   = []int{api.Block, api.Over}
	edgeRooms  = []int{1, 2, 3, 32, api.MaxRing - 1, api.MaxRing}
	noRooms    = []int{math.MinInt, -api.MaxRing, -1, 0, api.MaxRing + 1, 2 * api.MaxRing, api.MaxOffset, math.MaxInt}
	noPolicies = []int{math.MinInt, -2, -1, 2, 3, api.MaxRing, math.MaxInt}
	noRefs     = []int{math.MinInt, math.MinInt + 1, -api.MaxOffset, -2, -1, 0}
	below      = []int{math.MinInt, math.MinInt + 1, -api.MaxOffset, -api.MaxRing, -2, -1}
	beyond     = []int{1, 2, api.MaxRing - 1, api.MaxRing, api.MaxRing + 1, api.MaxOffset, api.MaxOffset + 1} // behind the tail
)

func same(t *testing.T, what string, got, want any) {
	t.Helper()
	if g, w := fmt.Sprint(got), fmt.Sprint(want); g != w {
		t.Errorf("%s: %s, want %s", what, g, w)
	}
}

// answers are a call's results in a row, errors as numbers.
func answers(results ...any) []any {
	for i, r := range results {
		if e, ok := r.(api.Errno); ok {
			results[i] = int(e)
		}
	}
	return results
}

// unmade are the rings that no call made.
func unmade() map[string]*ring.Ring {
	return map[string]*ring.Ring{"nil": nil, "plain": {}, "new": new(ring.Ring)}
}

func made(t *testing.T, room, policy int) *ring.Ring {
	t.Helper()
	r, e := ring.Make(room, policy)
	if r == nil || e != api.OK {
		t.Fatalf("Make(%d, %d): %v, %d, want a ring", room, policy, r, int(e))
	}
	return r
}

// claimed claims a place for which none goes, and is its offset.
func claimed(t *testing.T, r *ring.Ring, ref int) int {
	t.Helper()
	at, went, e := r.Claim(ref)
	if e != api.OK || went != 0 {
		t.Fatalf("Claim(%d): %d, %d, %d, want a place", ref, at, went, int(e))
	}
	return at
}

func published(t *testing.T, r *ring.Ring, at int) {
	t.Helper()
	if e := r.Publish(at); e != api.OK {
		t.Fatalf("Publish(%d): %d", at, int(e))
	}
}

// filled is a ring whose window has its head at an offset, and then these places with references from 1 on; true: it is published.
func filled(t *testing.T, room, policy, head int, places ...bool) *ring.Ring {
	t.Helper()
	r := made(t, room, policy)
	for range head {
		published(t, r, claimed(t, r, 1000))
		trimmed(t, r, r.Tail())
	}
	for i, is := range places {
		if at := claimed(t, r, i+1); is {
			published(t, r, at)
		}
	}
	return r
}

// trimmed is what Trim answers that is not refused.
func trimmed(t *testing.T, r *ring.Ring, to int) []int {
	t.Helper()
	gone, e := r.Trim(to)
	if e != api.OK {
		t.Fatalf("Trim(%d): %v, %d", to, gone, int(e))
	}
	return gone
}

// rising are the numbers from one up to another, that not with it.
func rising(from, to int) []int {
	l := []int{}
	for ; from < to; from++ {
		l = append(l, from)
	}
	return l
}

// masks are all ways to have so many places published or not.
func masks(places int) [][]bool {
	list := [][]bool{}
	for mask := range 1 << places {
		is := make([]bool, places)
		for i := range is {
			is[i] = mask>>i&1 == 1
		}
		list = append(list, is)
	}
	return list
}

// told is all that calls tell of a ring.
func told(r *ring.Ring) string {
	s := fmt.Sprint(r.Room(), r.Head(), r.Tail(), r.Refs())
	for at := r.Head() - 2; at < r.Tail()+2; at++ {
		ref, e := r.Get(at)
		s += fmt.Sprint(" ", ref, int(e), r.Ready(at))
	}
	return s
}

// unclaimed holds that a reference is refused, and that this changes nothing.
func unclaimed(t *testing.T, r *ring.Ring, ref int, want api.Errno) {
	t.Helper()
	was := told(r)
	at, went, e := r.Claim(ref)
	same(t, fmt.Sprint("Claim(", ref, ")"), answers(at, went, e), answers(0, 0, want))
	same(t, "what is told behind what was refused", told(r), was)
}

// untrimmed holds that an offset is refused, and that this changes nothing.
func untrimmed(t *testing.T, r *ring.Ring, to int, want api.Errno) {
	t.Helper()
	was := told(r)
	gone, e := r.Trim(to)
	same(t, fmt.Sprint("Trim(", to, ")"), answers(len(gone), e), answers(0, want))
	same(t, "what is told behind what was refused", told(r), was)
}

// noPlace holds that both calls refuse an offset with one error, and that this changes nothing.
func noPlace(t *testing.T, r *ring.Ring, at int, want api.Errno) {
	t.Helper()
	was := told(r)
	ref, e := r.Get(at)
	same(t, fmt.Sprint("Publish and Get(", at, ")"), answers(r.Publish(at), ref, e), answers(want, 0, want))
	same(t, "what is told behind what was refused", told(r), was)
}

func Example() {
	r, _ := ring.Make(2, api.Over)
	fmt.Println(r.Claim(7))
	fmt.Println(r.Claim(8))
	fmt.Println(r.Claim(9))
	fmt.Println(r.Publish(0))
	fmt.Println(r.Claim(9))
	// Output:
	// 0 0 error 0
	// 1 0 error 0
	// 0 0 error 60
	// error 0
	// 2 7 error 0
}

// 6.1, 6.3: from the least to the greatest ring, the window is empty, and lies at 0.
func TestMake(t *testing.T) {
	for room := 1; room <= api.MaxRing; room++ {
		for _, policy := range policies {
			r := made(t, room, policy)
			same(t, "a new ring", answers(r.Room(), r.Head(), r.Tail(), len(r.Refs())), answers(room, 0, 0, 0))
			for _, from := range []int{math.MinInt, -1, 0, 1, room, math.MaxInt} {
				same(t, fmt.Sprint("Ready(", from, ")"), r.Ready(from), 0)
			}
			noPlace(t, r, 0, api.ErrNone)
			untrimmed(t, r, 1, api.ErrArg)
			same(t, "Trim(0)", len(trimmed(t, r, 0)), 0)
		}
	}
}

// 6.1: rooms and policies that may not be make no ring.
func TestMakeErrArg(t *testing.T) {
	for _, c := range []struct{ rooms, policies []int }{{noRooms, policies}, {edgeRooms, noPolicies}, {noRooms, noPolicies}} {
		for _, room := range c.rooms {
			for _, policy := range c.policies {
				if r, e := ring.Make(room, policy); r != nil || e != api.ErrArg {
					t.Errorf("Make(%d, %d): %v, %d, want nil and ErrArg", room, policy, r, int(e))
				}
			}
		}
	}
}

// 6.1: two rings have nothing to do with one another.
func TestMakeApart(t *testing.T) {
	for _, policy := range policies {
		a, b := made(t, 2, policy), filled(t, 2, policy, 3, true, false)
		was := told(b)
		for ref := range 20 {
			a.Claim(ref)
			a.Publish(a.Tail() - 1)
			a.Trim(ref)
		}
		same(t, "the other ring", told(b), was)
	}
}

// 6.1, 6.3, 6.4: places are claimed one behind the other, up to the room, from the head on that there is.
func TestClaim(t *testing.T) {
	for _, room := range edgeRooms {
		for _, policy := range policies {
			for _, head := range []int{0, 1, 5, 100} {
				r := filled(t, room, policy, head)
				for i := range room {
					same(t, "Claim", claimed(t, r, 50+i), head+i)
					same(t, "behind Claim", answers(r.Head(), r.Tail(), r.Refs(), r.Room()), answers(head, head+i+1, rising(50, 51+i), room))
					ref, e := r.Get(head + i)
					same(t, "Get of what is claimed alone", answers(ref, e, r.Ready(head)), answers(0, api.ErrBusy, head))
				}
			}
		}
	}
}

// 6.1: any number from 1 on is a reference, also one that another place has; what is below is none, room or not.
func TestClaimReferences(t *testing.T) {
	for _, policy := range policies {
		r := made(t, 5, policy)
		refs := []int{1, math.MaxInt, 1, api.MaxOffset + 1, math.MaxInt}
		for i, ref := range refs {
			for _, no := range noRefs {
				unclaimed(t, r, no, api.ErrArg)
			}
			published(t, r, claimed(t, r, ref))
			got, e := r.Get(i)
			same(t, "Get", answers(got, e), answers(ref, 0))
		}
		same(t, "Refs", r.Refs(), refs)
		for _, no := range noRefs { // ahead of ErrRing, and of the head's going
			unclaimed(t, r, no, api.ErrArg)
		}
	}
}

// 6.1, 6.6: a full ring that blocks refuses, published or not, and lets none go by itself.
func TestFullBlocks(t *testing.T) {
	for room := 1; room <= api.MaxRing; room++ {
		r := filled(t, room, api.Block, room/2, make([]bool, room)...)
		head := room / 2
		unclaimed(t, r, 99, api.ErrRing)
		for at := range room {
			published(t, r, head+at)
			unclaimed(t, r, 99, api.ErrRing)
		}
		for went := range room { // as many can be claimed as went
			same(t, "Trim", trimmed(t, r, head+went+1), []int{went + 1})
			same(t, "Claim behind it", claimed(t, r, 500+went), head+room+went)
			unclaimed(t, r, 99, api.ErrRing)
		}
		same(t, "Refs", r.Refs(), rising(500, 500+room))
	}
}

// 6.1, 6.6: a full ring that does not block lets its head's place go, if that is published, whatever the others are.
func TestFullLetsGo(t *testing.T) {
	for _, room := range []int{1, 2, 3, 4, 5} {
		for _, head := range []int{0, 1, 7} {
			for _, is := range masks(room) {
				r := filled(t, room, api.Over, head, is...)
				for i, may := range is {
					if !may {
						unclaimed(t, r, 99, api.ErrRing)
						published(t, r, head+i)
					}
					ready := r.Ready(head + i + 1)
					at, went, e := r.Claim(50 + i)
					same(t, "Claim", answers(at, went, e), answers(head+room+i, i+1, 0))
					same(t, "behind Claim", answers(r.Head(), r.Tail(), r.Refs()), answers(head+i+1, head+room+i+1, append(rising(i+2, room+1), rising(50, 51+i)...)))
					same(t, "the others, and the new one", r.Ready(0), min(ready, at))
					noPlace(t, r, head+i, api.ErrWindow)
				}
				unclaimed(t, r, 99, api.ErrRing)
			}
		}
	}
}

// 6.1, 6.6: the greatest ring that does not block, and one whose room is not used up, which lets none go.
func TestLetsGoOnlyWhereThereIsNoRoom(t *testing.T) {
	for _, room := range edgeRooms {
		r := made(t, room, api.Over)
		for i := range room {
			same(t, "Claim", claimed(t, r, i+1), i)
			published(t, r, i)
		}
		for i := range 3 * room {
			if i >= room { // that one is claimed here, and not published yet
				unclaimed(t, r, 9999, api.ErrRing)
				published(t, r, i)
			}
			at, went, e := r.Claim(room + i + 1)
			same(t, "Claim", answers(at, went, e), answers(room+i, i+1, 0))
		}
		published(t, r, 3*room)
		same(t, "Trim", trimmed(t, r, 3*room+1), []int{3*room + 1})
		same(t, "Claim where there is room again", claimed(t, r, 7), 4*room)
	}
}

// 6.1: each place is published once, and then got, in whatever order; the others are not.
func TestPublishAndGet(t *testing.T) {
	for _, room := range edgeRooms {
		for _, policy := range policies {
			for step := 1; step <= 3; step++ {
				r := filled(t, room, policy, 10, make([]bool, room)...)
				for first := range step {
					for i := room - 1 - first; i >= 0; i -= step {
						was := told(r)
						ref, e := r.Get(10 + i)
						same(t, "Get of what is not published", answers(ref, e, told(r)), answers(0, api.ErrBusy, was))
						published(t, r, 10+i)
						was = told(r)
						same(t, "Publish again", answers(r.Publish(10+i), told(r)), answers(api.ErrSame, was))
						ref, e = r.Get(10 + i)
						same(t, "Get", answers(ref, e, told(r)), answers(i+1, 0, was))
					}
				}
				same(t, "Refs, Head, Tail", answers(r.Refs(), r.Head(), r.Tail(), r.Ready(0)), answers(rising(1, room+1), 10, 10+room, 10+room))
			}
		}
	}
}

// 6.1: offsets below 0, ahead of the head, and from the tail on.
func TestNoPlace(t *testing.T) {
	for _, policy := range policies {
		for _, head := range []int{0, 1, 2, 9} {
			for places := range 4 {
				for _, is := range masks(places) {
					r := filled(t, 4, policy, head, is...)
					for _, at := range below {
						noPlace(t, r, at, api.ErrArg)
					}
					for at := range head {
						noPlace(t, r, at, api.ErrWindow)
					}
					noPlace(t, r, r.Tail(), api.ErrNone)
					for _, by := range beyond {
						noPlace(t, r, r.Tail()+by, api.ErrNone)
					}
					noPlace(t, r, math.MaxInt, api.ErrNone)
				}
			}
		}
	}
}

// 6.2: of each window, up to each offset: those ahead of it go, all or none.
func TestTrim(t *testing.T) {
	for _, policy := range policies {
		for _, head := range []int{0, 1, 3} {
			for places := range 6 {
				for _, is := range masks(places) {
					for to := range head + places + 1 {
						r := filled(t, 5, policy, head, is...)
						n := max(to-head, 0)
						if slices.Contains(is[:n], false) {
							untrimmed(t, r, to, api.ErrBusy)
							continue
						}
						same(t, fmt.Sprint("Trim(", to, ") of ", is), trimmed(t, r, to), rising(1, n+1))
						same(t, "behind it", answers(r.Head(), r.Tail(), r.Refs()), answers(head+n, head+places, rising(n+1, places+1)))
						for at, may := range is {
							ref, e := r.Get(head + at)
							switch {
							case at < n:
								same(t, "one that went", answers(ref, e), answers(0, api.ErrWindow))
							case may:
								same(t, "one that is published", answers(ref, e), answers(at+1, 0))
							default:
								same(t, "one that is not", answers(ref, e), answers(0, api.ErrBusy))
							}
						}
					}
				}
			}
		}
	}
}

// 6.2: offsets below 0, and above the tail, ahead of ErrBusy.
func TestTrimErrArg(t *testing.T) {
	for _, policy := range policies {
		for _, head := range []int{0, 2} {
			for places := range 4 {
				for _, is := range masks(places) {
					r := filled(t, 3, policy, head, is...)
					for _, to := range below {
						untrimmed(t, r, to, api.ErrArg)
					}
					for _, by := range beyond {
						untrimmed(t, r, r.Tail()+by, api.ErrArg)
					}
					untrimmed(t, r, math.MaxInt, api.ErrArg)
				}
			}
		}
	}
}

// 6.2: to the head, and ahead of it, nothing goes, though the head's place is not published.
func TestTrimToTheHead(t *testing.T) {
	for _, room := range edgeRooms {
		for _, policy := range policies {
			r := filled(t, room, policy, 6, make([]bool, room)...)
			was := told(r)
			for to := range 7 {
				same(t, fmt.Sprint("Trim(", to, ")"), len(trimmed(t, r, to)), 0)
				same(t, "what is told behind it", told(r), was)
			}
			untrimmed(t, r, 7, api.ErrBusy)
		}
	}
}

// 6.2: to the tail all go, from one place to the greatest window, and as many can be claimed again.
func TestTrimToTheTail(t *testing.T) {
	for _, policy := range policies {
		r := made(t, api.MaxRing, policy)
		tail := 0
		for places := 1; places <= api.MaxRing; places++ {
			for range places {
				published(t, r, claimed(t, r, tail+1))
				tail++
			}
			same(t, "Trim", trimmed(t, r, tail), rising(tail-places+1, tail+1))
			same(t, "an empty window", answers(r.Head(), r.Tail(), len(r.Refs()), r.Ready(0)), answers(tail, tail, 0, tail))
			same(t, "Trim again", len(trimmed(t, r, tail)), 0)
		}
	}
}

// 6.3: of each window, from each offset: the first one from there on that is not published.
func TestReady(t *testing.T) {
	for _, policy := range policies {
		for _, head := range []int{0, 1, 4} {
			for places := range 7 {
				for _, is := range masks(places) {
					r := filled(t, 6, policy, head, is...)
					was := told(r)
					for from := -2; from < head+places+3; from++ {
						want := min(max(from, head), head+places)
						for want < head+places && is[want-head] {
							want++
						}
						same(t, fmt.Sprint("Ready(", from, ") of ", is, " from ", head), r.Ready(from), want)
					}
					same(t, "the least and the greatest", answers(r.Ready(math.MinInt), r.Ready(math.MaxInt)), answers(r.Ready(head), head+places))
					same(t, "what is told behind Ready", told(r), was)
				}
			}
		}
	}
}

// 6.3: in a window as great as can be, each place in turn is the one that is not published.
func TestReadyOfTheGreatestWindow(t *testing.T) {
	for open := range api.MaxRing {
		r := made(t, api.MaxRing, api.Block)
		for at := range api.MaxRing {
			claimed(t, r, at+1)
			if at != open {
				published(t, r, at)
			}
		}
		for from := range api.MaxRing + 2 {
			want := api.MaxRing
			if from <= open {
				want = open
			}
			same(t, fmt.Sprint("Ready(", from, ")"), r.Ready(from), want)
		}
	}
}

// 6.4, 6.5, 6.6: a window that goes round its room many times, by itself.
func TestManyTimesRoundOver(t *testing.T) {
	for _, room := range edgeRooms {
		r := made(t, room, api.Over)
		for i := range 200 * room {
			at, went, e := r.Claim(i + 1)
			same(t, "Claim", answers(at, went, e), answers(i, max(i+1-room, 0), 0))
			published(t, r, i)
			ref, e := r.Get(i)
			eldest, e1 := r.Get(r.Head())
			head := max(i+1-room, 0)
			same(t, "behind it", answers(ref, e, eldest, e1, r.Head(), r.Tail(), r.Ready(0), len(r.Refs())), answers(i+1, 0, head+1, 0, head, i+1, i+1, i+1-head))
		}
		same(t, "Refs", r.Refs(), rising(199*room+1, 200*room+1))
	}
}

// 6.4, 6.5, 6.6: a window that goes round its room many times, by Trim, by one place or several.
func TestManyTimesRoundBlock(t *testing.T) {
	for _, room := range edgeRooms {
		r := made(t, room, api.Block)
		gone := []int{}
		for i := range 200 * room {
			if i-r.Head() == room {
				unclaimed(t, r, 1, api.ErrRing)
				lists := trimmed(t, r, r.Head()+1+i%room)
				gone = append(gone, lists...)
			}
			same(t, "Claim", claimed(t, r, i+1), i)
			published(t, r, i)
			if len(r.Refs()) > room || r.Head() != len(gone) {
				t.Fatalf("window from %d with %d places, of room %d, where %d went", r.Head(), len(r.Refs()), room, len(gone))
			}
		}
		same(t, "what went, and what is there", append(gone, r.Refs()...), rising(1, 200*room+1))
	}
}

// The lists that are handed out are nobody else's: neither the window's, nor one another's, nor their room.
func TestWhatIsHandedOutIsTheCallers(t *testing.T) {
	for _, policy := range policies {
		for to := 1; to <= 6; to++ {
			r := filled(t, 6, policy, 0, true, true, true, true, true, true)
			refs, again := r.Refs(), r.Refs()
			refs[0], refs[5] = 70, 71
			_ = append(refs[:1], 72, 73, 74, 75)
			same(t, "another answer", answers(again, r.Refs()), answers(rising(1, 7), rising(1, 7)))
			gone := trimmed(t, r, to)
			was := told(r)
			longer := append(gone, 90, 91, 92, 93, 94, 95, 96, 97)
			spare := gone[:cap(gone)]
			for i := range spare {
				spare[i] = 80 + i
			}
			same(t, "what is told behind changes of lists", told(r), was)
			same(t, "an elder answer", again, rising(1, 7))
			same(t, "the longer list", longer[to:], rising(90, 98))
			for ref := 7; r.Tail()-r.Head() < 6; ref++ {
				published(t, r, claimed(t, r, ref))
			}
			more := trimmed(t, r, r.Tail())
			same(t, "those that went behind it", more, rising(to+1, to+7))
			same(t, "the first list", gone, rising(80, 80+to))
		}
	}
}

// A list that went stays as it is, however the window goes on.
func TestListsStay(t *testing.T) {
	r := made(t, 4, api.Over)
	lists := [][]int{}
	for i := range 200 {
		published(t, r, claimed(t, r, i+1))
		if i%4 == 3 {
			lists = append(lists, trimmed(t, r, r.Head()+3), trimmed(t, r, r.Tail()), r.Refs())
		}
	}
	same(t, "all lists, one behind the other", slices.Concat(lists...), rising(1, 201))
	for i, list := range lists {
		_ = append(list, 9999)
		same(t, fmt.Sprint("lists behind one more in list ", i), slices.Concat(lists...), rising(1, 201))
	}
}

// P1: of a ring that no call made, ErrNil comes ahead of all other errors, and all else is zero.
func TestNoRing(t *testing.T) {
	for name, r := range unmade() {
		for range 2 {
			for _, n := range append(slices.Clone(below), 0, 1, 2, 63, api.MaxRing, api.MaxOffset, math.MaxInt) {
				at, went, e1 := r.Claim(n)
				ref, e2 := r.Get(n)
				gone, e3 := r.Trim(n)
				same(t, name, answers(at, went, e1, r.Publish(n), ref, e2, len(gone), e3), answers(0, 0, 1, 1, 0, 1, 0, 1))
				same(t, name, answers(r.Ready(n), r.Head(), r.Tail(), r.Room(), len(r.Refs())), answers(0, 0, 0, 0, 0))
			}
		}
	}
}
