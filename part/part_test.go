package part_test

import (
	"bytes"
	"fmt"
	"math"
	"slices"
	"testing"

	"postrider/api"
	"postrider/part"
	"postrider/pool"
)

// The numbers that the document's limits, and the machine's, set apart.
var (
	policies   = []int{api.Block, api.Over}
	edgeRooms  = []int{1, 2, 3, 32, api.MaxRing - 1, api.MaxRing}
	noRooms    = []int{math.MinInt, -api.MaxRing, -1, 0, api.MaxRing + 1, 2 * api.MaxRing, api.MaxOffset, math.MaxInt}
	noPolicies = []int{math.MinInt, -2, -1, 2, 3, api.MaxRing, math.MaxInt}
	below      = []int{math.MinInt, math.MinInt + 1, -api.MaxOffset, -api.MaxRing, -2, -1}
	beyond     = []int{1, 2, api.MaxRing - 1, api.MaxRing, api.MaxRing + 1, api.MaxOffset, api.MaxOffset + 1} // behind the tail, or a size
)

func same(t *testing.T, what string, got, want any) {
	t.Helper()
	if g, w := fmt.Sprint(got), fmt.Sprint(want); g != w {
		t.Errorf("%s: %s, want %s", what, g, w)
	}
}

// answers are a call's results in a row, errors as numbers.
func answers(results ...any) []any {
	for i, r := range results {
		if e, ok := r.(api.Errno); ok {
			results[i] = int(e)
		}
	}
	return results
}

// unmade are the partitions that no call made.
func unmade() map[string]*part.Part {
	return map[string]*part.Part{"nil": nil, "plain": {}, "new": new(part.Part)}
}

// pooled is a pool of so many slots.
func pooled(t *testing.T, slots, size int) *pool.Pool {
	t.Helper()
	p, e := pool.Make(slots, size)
	if p == nil || e != api.OK {
		t.Fatalf("pool.Make(%d, %d): %v, %d, want a pool", slots, size, p, int(e))
	}
	return p
}

func made(t *testing.T, p *pool.Pool, room, policy int) *part.Part {
	t.Helper()
	x, e := part.Make(p, room, policy)
	if x == nil || e != api.OK {
		t.Fatalf("Make(.., %d, %d): %v, %d, want a partition", room, policy, x, int(e))
	}
	return x
}

// claimed claims a place, and is its offset and its envelope's handle.
func claimed(t *testing.T, x *part.Part, n int) (int, int) {
	t.Helper()
	at, h, e := x.Claim(n)
	if e != api.OK {
		t.Fatalf("Claim(%d): %d, %d, %d, want a place", n, at, h, int(e))
	}
	return at, h
}

// filled claims a place for these bytes, fills it with them, and is its offset and its envelope's handle.
func filled(t *testing.T, x *part.Part, b ...byte) (int, int) {
	t.Helper()
	at, h := claimed(t, x, len(b))
	if e := x.Fill(at, b); e != api.OK {
		t.Fatalf("Fill(%d, %v): %d", at, b, int(e))
	}
	return at, h
}

// published claims, fills and publishes a place.
func published(t *testing.T, x *part.Part, b ...byte) (int, int) {
	t.Helper()
	at, h := filled(t, x, b...)
	if e := x.Publish(at); e != api.OK {
		t.Fatalf("Publish(%d): %d", at, int(e))
	}
	return at, h
}

// read reads a place that is published, and is its envelope's handle.
func read(t *testing.T, x *part.Part, at int) int {
	t.Helper()
	h, e := x.Read(at)
	if e != api.OK || h < 1 {
		t.Fatalf("Read(%d): %d, %d, want a handle", at, h, int(e))
	}
	return h
}

// dropped gives a handle back, of which so many counts are left.
func dropped(t *testing.T, p *pool.Pool, h, left int) {
	t.Helper()
	n, e := p.Drop(h)
	same(t, fmt.Sprint("Drop of ", h), answers(n, e), answers(left, 0))
}

// trimmed lets so many places go that are ahead of an offset.
func trimmed(t *testing.T, x *part.Part, to, places int) {
	t.Helper()
	n, e := x.Trim(to)
	same(t, fmt.Sprint("Trim(", to, ")"), answers(n, e), answers(places, 0))
}

// peeks holds that the bytes of a place are these.
func peeks(t *testing.T, x *part.Part, at int, want ...byte) {
	t.Helper()
	b, e := x.Peek(at)
	same(t, fmt.Sprint("Peek(", at, ")"), answers(b, e), answers(want, 0))
}

// reads holds that the bytes that a handle stands for are these.
func reads(t *testing.T, p *pool.Pool, h int, want ...byte) {
	t.Helper()
	b, e := p.Bytes(h)
	same(t, fmt.Sprint("Bytes(", h, ")"), answers(b, e), answers(want, 0))
}

// counts holds that the counts of a pool's first slots are these.
func counts(t *testing.T, p *pool.Pool, want ...int) {
	t.Helper()
	for slot, n := range want {
		if got := p.Count(slot); got != n {
			t.Errorf("count of slot %d: %d, want %d", slot, got, n)
		}
	}
}

// window holds that a partition's window is this.
func window(t *testing.T, x *part.Part, head, tail, ready int, handles ...int) {
	t.Helper()
	same(t, "head, tail, ready, handles", answers(x.Head(), x.Tail(), x.Ready(0), x.Handles()), answers(head, tail, ready, handles))
}

// of is the handle of a slot and a generation that may be.
func of(slot, gen int) int { return gen*api.MaxSlots + slot + 1 }

// letters are n bytes that begin with one, and go on.
func letters(n int, first byte) []byte {
	b := make([]byte, n)
	for i := range b {
		b[i] = first + byte(i)
	}
	return b
}

// told is all that calls tell of a pool and of partitions over it.
func told(p *pool.Pool, parts ...*part.Part) string {
	s := fmt.Sprint(p.Slots(), p.Size(), p.Free())
	for slot := range p.Slots() {
		b, e := p.Bytes(of(slot, p.Gen(slot)))
		s += fmt.Sprint(" ", p.Count(slot), p.Gen(slot), b, int(e))
	}
	for _, x := range parts {
		s += fmt.Sprint("\n", x.Head(), x.Tail(), x.Handles())
		for at := x.Head() - 2; at < x.Tail()+2; at++ {
			b, e := x.Peek(at)
			s += fmt.Sprint(" ", b, int(e), x.Ready(at))
		}
	}
	return s
}

// unclaimed holds that a claim is refused, and that this changes nothing.
func unclaimed(t *testing.T, p *pool.Pool, x *part.Part, n int, want api.Errno) {
	t.Helper()
	was := told(p, x)
	at, h, e := x.Claim(n)
	same(t, fmt.Sprint("Claim(", n, ")"), answers(at, h, e), answers(0, 0, want))
	same(t, "what is told behind what was refused", told(p, x), was)
}

// unfilled holds that a filling is refused, and that this changes nothing.
func unfilled(t *testing.T, p *pool.Pool, x *part.Part, at int, b []byte, want api.Errno) {
	t.Helper()
	was := told(p, x)
	same(t, fmt.Sprint("Fill(", at, ", ", b, ")"), int(x.Fill(at, b)), int(want))
	same(t, "what is told behind what was refused", told(p, x), was)
}

// unpublished holds that an offset is refused, and that this changes nothing.
func unpublished(t *testing.T, p *pool.Pool, x *part.Part, at int, want api.Errno) {
	t.Helper()
	was := told(p, x)
	same(t, fmt.Sprint("Publish(", at, ")"), int(x.Publish(at)), int(want))
	same(t, "what is told behind what was refused", told(p, x), was)
}

// unread holds that an offset is refused by Read and by Peek, and that this changes nothing.
func unread(t *testing.T, p *pool.Pool, x *part.Part, at int, want api.Errno) {
	t.Helper()
	was := told(p, x)
	h, e := x.Read(at)
	same(t, fmt.Sprint("Read(", at, ")"), answers(h, e), answers(0, want))
	b, e := x.Peek(at)
	same(t, fmt.Sprint("Peek(", at, ")"), answers(b, len(b), e), answers([]byte{}, 0, want))
	same(t, "what is told behind what was refused", told(p, x), was)
}

// untrimmed holds that an offset is refused, and that this changes nothing.
func untrimmed(t *testing.T, p *pool.Pool, x *part.Part, to int, want api.Errno) {
	t.Helper()
	was := told(p, x)
	n, e := x.Trim(to)
	same(t, fmt.Sprint("Trim(", to, ")"), answers(n, e), answers(0, want))
	same(t, "what is told behind what was refused", told(p, x), was)
}

// The chapter's example.
func TestExample(t *testing.T) {
	p := pooled(t, 2, 4)
	x := made(t, p, 1, api.Over)
	at, h, e := x.Claim(1)
	same(t, "Claim(1)", answers(at, h, e), answers(0, 1, 0))
	same(t, "Publish(0)", int(x.Publish(0)), 0)
	same(t, "Read(0)", read(t, x, 0), 1)
	at, h, e = x.Claim(1)
	same(t, "Claim(1) again", answers(at, h, e), answers(1, 2, 0))
	unclaimed(t, p, x, 1, api.ErrRing)
	counts(t, p, 1, 1)
	dropped(t, p, 1, 0)
}

// 12.1: each room that may be, under both policies; the window is empty, and nothing of the pool is taken.
func TestMake(t *testing.T) {
	for _, slots := range []int{1, 2, api.MaxSlots} {
		for _, size := range []int{1, api.MaxSize} {
			for room := 1; room <= api.MaxRing; room++ {
				for _, policy := range policies {
					p := pooled(t, slots, size)
					was := told(p)
					window(t, made(t, p, room, policy), 0, 0, 0)
					same(t, "the pool", told(p), was)
				}
			}
		}
	}
}

// 12.1, P1: a room and a policy that may not be.
func TestMakeRefused(t *testing.T) {
	p := pooled(t, 2, 2)
	was := told(p)
	refused := func(p *pool.Pool, room, policy int, want api.Errno) {
		t.Helper()
		x, e := part.Make(p, room, policy)
		if x != nil || e != want {
			t.Errorf("Make(.., %d, %d): %v, %d, want %d", room, policy, x, int(e), int(want))
		}
	}
	for _, room := range noRooms {
		for _, policy := range append(policies, noPolicies...) {
			refused(p, room, policy, api.ErrArg)
		}
	}
	for _, room := range edgeRooms {
		for _, policy := range noPolicies {
			refused(p, room, policy, api.ErrArg)
		}
	}
	same(t, "the pool", told(p), was)
	for _, none := range []*pool.Pool{nil, {}, new(pool.Pool)} { // ErrNil comes ahead of ErrArg
		for _, room := range append(noRooms, edgeRooms...) {
			for _, policy := range append(policies, noPolicies...) {
				refused(none, room, policy, api.ErrNil)
			}
		}
	}
}

// P1, rule 2: a partition that no call made answers ErrNil, or zero values, whatever it is given.
func TestUnmade(t *testing.T) {
	for name, x := range unmade() {
		for _, n := range slices.Concat(below, []int{0}, beyond, []int{math.MaxInt}) {
			at, h, e := x.Claim(n)
			same(t, name+": Claim", answers(at, h, e), answers(0, 0, api.ErrNil))
			same(t, name+": Fill", int(x.Fill(n, nil)), int(api.ErrNil))
			same(t, name+": Fill", int(x.Fill(n, []byte{1})), int(api.ErrNil))
			same(t, name+": Publish", int(x.Publish(n)), int(api.ErrNil))
			h, e = x.Read(n)
			same(t, name+": Read", answers(h, e), answers(0, api.ErrNil))
			b, e := x.Peek(n)
			same(t, name+": Peek", answers(b, e), answers([]byte{}, api.ErrNil))
			places, e := x.Trim(n)
			same(t, name+": Trim", answers(places, e), answers(0, api.ErrNil))
			same(t, name+": Ready", x.Ready(n), 0)
		}
		same(t, name+": Head, Tail, Handles", answers(x.Head(), x.Tail(), len(x.Handles())), answers(0, 0, 0))
	}
}

// 12.1: offsets are one behind the other, envelopes those that the pool gives out, with as many noughts as were claimed; they are not published.
func TestClaim(t *testing.T) {
	for _, policy := range policies {
		for _, room := range edgeRooms {
			p := pooled(t, api.MaxSlots, api.MaxSize)
			x := made(t, p, room, policy)
			handles := []int{}
			for want := range room {
				n := want * api.MaxSize / max(room-1, 1) // none at first, as many as may be at last
				at, h, e := x.Claim(n)
				handles = append(handles, h)
				same(t, "Claim", answers(at, h, e), answers(want, of(want, 0), 0))
				reads(t, p, h, make([]byte, n)...)
				same(t, "count", p.Count(want), 1)
				window(t, x, 0, want+1, 0, handles...)
				unread(t, p, x, at, api.ErrBusy)
			}
			unclaimed(t, p, x, 1, api.ErrRing)
		}
	}
}

// 12.1: as many bytes as an envelope has room for, and none, can be claimed; more, and fewer than none, can not.
func TestClaimSizes(t *testing.T) {
	for _, size := range []int{1, 2, 3, api.MaxSize - 1, api.MaxSize} {
		p := pooled(t, 4, size)
		x := made(t, p, 4, api.Block)
		for _, n := range below {
			unclaimed(t, p, x, n, api.ErrArg)
		}
		for _, n := range append(slices.Clone(beyond), math.MaxInt-size) {
			unclaimed(t, p, x, size+n, api.ErrLong)
		}
		for _, n := range []int{0, size, size - 1} {
			at, h := claimed(t, x, n)
			reads(t, p, h, make([]byte, n)...)
			unfilled(t, p, x, at, letters(n+1, 'a'), api.ErrArg)
			same(t, "Fill", int(x.Fill(at, letters(n, 'a'))), 0)
			same(t, "Publish", int(x.Publish(at)), 0)
			peeks(t, x, at, letters(n, 'a')...)
		}
	}
}

// 12.1: of a full window: that blocks, and that does not, with a head's place that is published, or is not. It is the head's place alone that counts.
func TestClaimOfAFullWindow(t *testing.T) {
	for _, room := range edgeRooms {
		for _, policy := range policies {
			for _, headIs := range []bool{false, true} {
				p := pooled(t, api.MaxSlots, 1)
				x := made(t, p, room, policy)
				for at := range room {
					claimed(t, x, 1)
					if at > 0 || headIs {
						x.Publish(at)
					}
				}
				if policy == api.Block || !headIs {
					unclaimed(t, p, x, 1, api.ErrRing)
					continue
				}
				at, h, e := x.Claim(1)
				same(t, "Claim", answers(at, h, e), answers(room, of(0, 1), 0)) // the slot that was given back is the next one
				same(t, "head, tail", answers(x.Head(), x.Tail()), answers(1, room+1))
				unread(t, p, x, 0, api.ErrWindow)
			}
		}
	}
}

// 12.1: the head's place goes ahead of the taking: its slot is taken again, also where others are free.
func TestClaimTakesWhatWent(t *testing.T) {
	for _, slots := range []int{1, 2, 3, api.MaxSlots} {
		p := pooled(t, slots, 2)
		x := made(t, p, 1, api.Over)
		for gen := range 5 {
			at, h := published(t, x, byte(gen), byte(gen))
			same(t, "offset, handle", answers(at, h), answers(gen, of(0, gen)))
			same(t, "free ones", len(p.Free()), slots-1)
		}
	}
}

// 12.1: the head's place does not go as long as there is room, though no envelope is free.
func TestClaimWithRoomAndNoEnvelope(t *testing.T) {
	for _, policy := range policies {
		p := pooled(t, 2, 2)
		x := made(t, p, 3, policy)
		published(t, x, 1)
		published(t, x, 2)
		unclaimed(t, p, x, 1, api.ErrPool)
		window(t, x, 0, 2, 2, 1, 2)
		trimmed(t, x, 1, 1)
		at, h := claimed(t, x, 1)
		same(t, "behind a trim", answers(at, h), answers(2, of(0, 1)))
	}
}

// 12.1: no envelope is free, and the head's place goes only if its envelope becomes free by that: nobody reads it still.
func TestClaimOfWhatIsRead(t *testing.T) {
	for readers := range 4 {
		p := pooled(t, 2, 2)
		x, y := made(t, p, 1, api.Over), made(t, p, 1, api.Over)
		published(t, x, 5, 6)
		published(t, y, 7)
		for range readers {
			same(t, "Read", read(t, x, 0), 1)
		}
		for left := readers; left > 0; left-- {
			unclaimed(t, p, x, 2, api.ErrPool)
			peeks(t, x, 0, 5, 6)
			dropped(t, p, 1, left)
		}
		at, h := claimed(t, x, 2)
		same(t, "nobody reads it", answers(at, h), answers(1, of(0, 1)))
		window(t, y, 0, 1, 1, 2)
	}
}

// 12.1, 12.3: the head's place goes, and whoever reads it goes on, where another envelope is free.
func TestClaimBesideAReader(t *testing.T) {
	p := pooled(t, 2, 2)
	x := made(t, p, 1, api.Over)
	published(t, x, 5, 6)
	read(t, x, 0)
	read(t, x, 0)
	counts(t, p, 3, 0)
	at, h := published(t, x, 8)
	same(t, "beside a reader", answers(at, h), answers(1, 2))
	counts(t, p, 2, 1)
	reads(t, p, 1, 5, 6)
	at, h = published(t, x, 9) // its own head's envelope becomes free
	same(t, "beside a reader again", answers(at, h), answers(2, of(1, 1)))
	dropped(t, p, 1, 1)
	reads(t, p, 1, 5, 6)
	dropped(t, p, 1, 0)
	if _, e := p.Bytes(1); e != api.ErrStale {
		t.Errorf("what was given back is read: %d", int(e))
	}
}

// 12.1: where several errors apply: ErrArg and ErrLong ahead of ErrRing, this ahead of ErrPool.
func TestClaimErrorsInOrder(t *testing.T) {
	for _, policy := range policies {
		p := pooled(t, 1, 2)
		x := made(t, p, 1, policy)
		claimed(t, x, 2) // neither room nor an envelope is left
		unclaimed(t, p, x, -1, api.ErrArg)
		unclaimed(t, p, x, 3, api.ErrLong)
		unclaimed(t, p, x, 2, api.ErrRing)
		y := made(t, p, 1, policy) // room is left
		unclaimed(t, p, y, math.MinInt, api.ErrArg)
		unclaimed(t, p, y, math.MaxInt, api.ErrLong)
		unclaimed(t, p, y, 0, api.ErrPool)
		x.Publish(0)
		read(t, x, 0)
		unclaimed(t, p, x, -1, api.ErrArg)
		unclaimed(t, p, x, 3, api.ErrLong)
		if policy == api.Block {
			unclaimed(t, p, x, 0, api.ErrRing)
		} else {
			unclaimed(t, p, x, 0, api.ErrPool)
		}
	}
}

// moved is a partition with room for four: two places went, place 2 is published, 3 is not, 4 is published.
func moved(t *testing.T, policy int) (*pool.Pool, *part.Part) {
	t.Helper()
	p := pooled(t, 8, 3)
	x := made(t, p, 4, policy)
	published(t, x, 1)
	published(t, x, 2)
	trimmed(t, x, 2, 2)
	published(t, x, 10, 11)
	filled(t, x, 20, 21, 22)
	published(t, x)
	return p, x
}

// 12.1: the bytes of a place that is not published are those that it was filled with last; of one that is published they stay.
func TestFill(t *testing.T) {
	for _, policy := range policies {
		p, x := moved(t, policy)
		for _, b := range [][]byte{{1, 2, 3}, {0, 0, 0}, {255, 0, 255}} {
			same(t, "Fill", int(x.Fill(3, b)), 0)
			reads(t, p, x.Handles()[1], b...)
		}
		for _, b := range [][]byte{nil, {}, {1}, {1, 2}, {1, 2, 3, 4}, make([]byte, api.MaxSize+1)} {
			unfilled(t, p, x, 3, b, api.ErrArg)
		}
		same(t, "Publish", int(x.Publish(3)), 0)
		peeks(t, x, 3, 255, 0, 255)
		peeks(t, x, 2, 10, 11)
		peeks(t, x, 4)
	}
}

// 12.1, P1: each error of Fill, whatever the bytes are: that of their number comes last.
func TestFillErrors(t *testing.T) {
	for _, policy := range policies {
		p, x := moved(t, policy)
		for _, b := range [][]byte{nil, {1}, {1, 2}, {1, 2, 3}, make([]byte, api.MaxSize+1)} {
			for _, at := range below {
				unfilled(t, p, x, at, b, api.ErrArg)
			}
			for at := range 2 {
				unfilled(t, p, x, at, b, api.ErrWindow)
			}
			for _, n := range append([]int{0}, beyond...) {
				unfilled(t, p, x, x.Tail()+n, b, api.ErrNone)
			}
			unfilled(t, p, x, math.MaxInt, b, api.ErrNone)
			unfilled(t, p, x, 2, b, api.ErrSame)
			unfilled(t, p, x, 4, b, api.ErrSame)
		}
	}
}

// 12.1: of an envelope of no bytes no bytes are filled in.
func TestFillOfNoBytes(t *testing.T) {
	p := pooled(t, 2, 1)
	x := made(t, p, 2, api.Block)
	claimed(t, x, 0)
	unfilled(t, p, x, 0, []byte{0}, api.ErrArg)
	same(t, "Fill(nil)", int(x.Fill(0, nil)), 0)
	same(t, "Fill({})", int(x.Fill(0, []byte{})), 0)
	x.Publish(0)
	peeks(t, x, 0)
	unfilled(t, p, x, 0, nil, api.ErrSame)
}

// 12.1: Publish answers what a ring's does.
func TestPublish(t *testing.T) {
	for _, policy := range policies {
		p, x := moved(t, policy)
		for _, at := range below {
			unpublished(t, p, x, at, api.ErrArg)
		}
		for at := range 2 {
			unpublished(t, p, x, at, api.ErrWindow)
		}
		for _, n := range append([]int{0}, beyond...) {
			unpublished(t, p, x, x.Tail()+n, api.ErrNone)
		}
		unpublished(t, p, x, 2, api.ErrSame)
		unpublished(t, p, x, 4, api.ErrSame)
		same(t, "Publish(3)", int(x.Publish(3)), 0)
		unpublished(t, p, x, 3, api.ErrSame)
		window(t, x, 2, 5, 5, x.Handles()...)
	}
}

// 12.1: what was claimed and not filled is published with its noughts.
func TestPublishUnfilled(t *testing.T) {
	p := pooled(t, 1, 3)
	x := made(t, p, 1, api.Over)
	published(t, x, 7, 8, 9)
	at, _ := claimed(t, x, 3)
	same(t, "Publish", int(x.Publish(at)), 0)
	peeks(t, x, at, 0, 0, 0)
}

// 12.2: Read and Peek answer a ring's Get's errors.
func TestReadErrors(t *testing.T) {
	for _, policy := range policies {
		p, x := moved(t, policy)
		for _, at := range below {
			unread(t, p, x, at, api.ErrArg)
		}
		for at := range 2 {
			unread(t, p, x, at, api.ErrWindow)
		}
		for _, n := range append([]int{0}, beyond...) {
			unread(t, p, x, x.Tail()+n, api.ErrNone)
		}
		unread(t, p, x, 3, api.ErrBusy)
		unread(t, p, made(t, p, 1, policy), 0, api.ErrNone)
	}
}

// 12.2: each Read counts the envelope once more, a Peek does not.
func TestReadCounts(t *testing.T) {
	p, x := moved(t, api.Block)
	handles := x.Handles()
	slot := (handles[0] - 1) % api.MaxSlots
	for n := range 5 {
		same(t, "count", p.Count(slot), n+1)
		peeks(t, x, 2, 10, 11)
		same(t, "count behind a Peek", p.Count(slot), n+1)
		same(t, "Read", read(t, x, 2), handles[0])
	}
	for left := 5; left > 0; left-- {
		dropped(t, p, handles[0], left)
		peeks(t, x, 2, 10, 11)
	}
	window(t, x, 2, 5, 3, handles...)
}

// 12.2: Trim lets all places ahead of an offset go, each of which gives its count back, and tells how many.
func TestTrim(t *testing.T) {
	for to := range 6 {
		p := pooled(t, 5, 2)
		x := made(t, p, 5, api.Block)
		for i := range 5 {
			published(t, x, byte(i))
		}
		trimmed(t, x, to, to)
		same(t, "head, tail, handles", answers(x.Head(), x.Tail(), len(x.Handles())), answers(to, 5, 5-to))
		same(t, "free ones", len(p.Free()), to)
		for at := range to {
			same(t, "count, generation", answers(p.Count(at), p.Gen(at)), answers(0, 1))
		}
		for again := range to + 1 { // at the head and ahead of it nothing goes
			trimmed(t, x, again, 0)
		}
		for at := to; at < 5; at++ {
			peeks(t, x, at, byte(at))
		}
	}
}

// 12.2: Trim answers a ring's Trim's errors; a place that is not published keeps all others from going.
func TestTrimErrors(t *testing.T) {
	for _, policy := range policies {
		p, x := moved(t, policy)
		for _, to := range below {
			untrimmed(t, p, x, to, api.ErrArg)
		}
		for _, n := range beyond {
			untrimmed(t, p, x, x.Tail()+n, api.ErrArg)
		}
		untrimmed(t, p, x, math.MaxInt, api.ErrArg)
		untrimmed(t, p, x, 4, api.ErrBusy)
		untrimmed(t, p, x, 5, api.ErrBusy)
		for to := range 3 {
			trimmed(t, x, to, 0)
		}
		trimmed(t, x, 3, 1)
		untrimmed(t, p, x, 4, api.ErrBusy)
		x.Publish(3)
		trimmed(t, x, 5, 2)
		window(t, x, 5, 5, 5)
		same(t, "free ones", len(p.Free()), 8)
	}
}

// 12.2, 12.3: what Trim lets go is read on by whoever read it.
func TestTrimBesideAReader(t *testing.T) {
	p, x := moved(t, api.Block)
	h := read(t, x, 2)
	trimmed(t, x, 3, 1)
	unread(t, p, x, 2, api.ErrWindow)
	reads(t, p, h, 10, 11)
	same(t, "free ones", len(p.Free()), 5)
	dropped(t, p, h, 0)
	same(t, "free ones", len(p.Free()), 6)
}

// 12.2: Head, Tail, Ready and Handles are the ring's.
func TestWindow(t *testing.T) {
	for _, policy := range policies {
		_, x := moved(t, policy)
		for from, want := range map[int]int{math.MinInt: 3, -1: 3, 0: 3, 2: 3, 3: 3, 4: 5, 5: 5, 6: 5, math.MaxInt: 5} {
			same(t, fmt.Sprint("Ready(", from, ")"), x.Ready(from), want)
		}
		x.Publish(3)
		same(t, "Ready(0)", x.Ready(0), 5)
		claimed(t, x, 0)
		same(t, "Ready(0)", x.Ready(0), 5)
		same(t, "head, tail", answers(x.Head(), x.Tail()), answers(2, 6))
		same(t, "handles", x.Handles(), []int{of(1, 1), of(0, 1), 3, 4}) // slot 1 was given back last, so it lay on top
	}
}

// 12.2: the handles of the whole window are told, as many as there are.
func TestHandlesOfAFullWindow(t *testing.T) {
	p := pooled(t, api.MaxSlots, 1)
	x := made(t, p, api.MaxRing, api.Over)
	want := []int{}
	for at := range 3 * api.MaxRing {
		_, h := published(t, x, byte(at))
		want = append(want, h)
		same(t, "handles", x.Handles(), want[max(0, len(want)-api.MaxRing):])
	}
	same(t, "free ones", len(p.Free()), api.MaxSlots-api.MaxRing)
}

// 12.4: a pool of MaxSlots is shared out among partitions, and never more.
func TestTheGreatestPool(t *testing.T) {
	p := pooled(t, api.MaxSlots, api.MaxSize)
	parts := []*part.Part{made(t, p, api.MaxRing, api.Block), made(t, p, api.MaxRing-1, api.Over), made(t, p, 3, api.Over)}
	for i, places := range []int{api.MaxRing, api.MaxRing - 1, 1} {
		for at := range places {
			published(t, parts[i], letters(api.MaxSize, byte(i+at))...)
		}
	}
	same(t, "free ones", len(p.Free()), 0)
	unclaimed(t, p, parts[0], 1, api.ErrRing)
	unclaimed(t, p, parts[2], 1, api.ErrPool)
	at, _ := published(t, parts[1], letters(api.MaxSize, 9)...)
	same(t, "offset", at, api.MaxRing-1)
	for i, head := range []int{0, 1, 0} {
		same(t, "head", parts[i].Head(), head)
		peeks(t, parts[i], head, letters(api.MaxSize, byte(i+head))...)
	}
}

// P2, rule 4: bytes that are handed in are not kept, those that are handed out are the caller's own, and so are handles.
func TestNothingIsShared(t *testing.T) {
	p := pooled(t, 3, 4)
	x := made(t, p, 3, api.Block)
	b := []byte{1, 2, 3, 4}
	claimed(t, x, 4)
	same(t, "Fill", int(x.Fill(0, b)), 0)
	same(t, "what was handed in", b, []byte{1, 2, 3, 4})
	b[0] = 100
	x.Publish(0)
	peeks(t, x, 0, 1, 2, 3, 4)
	first, _ := x.Peek(0)
	second, _ := x.Peek(0)
	first[1] = 100
	same(t, "the other one's bytes", second, []byte{1, 2, 3, 4})
	peeks(t, x, 0, 1, 2, 3, 4)
	reads(t, p, 1, 1, 2, 3, 4)
	claimed(t, x, 0)
	handles, others := x.Handles(), x.Handles()
	handles[0], handles[1] = 77, 78
	_ = append(handles[:1], 79)
	same(t, "the other one's handles", others, []int{1, 2})
	same(t, "handles", x.Handles(), []int{1, 2})
	claimed(t, x, 1)
	same(t, "the other one's handles behind a claim", others, []int{1, 2})
	trimmed(t, x, 1, 1)
	same(t, "the other one's handles behind a trim", others, []int{1, 2})
}

// P2: bytes that are handed in as a piece of more are not written behind.
func TestFillFromAPiece(t *testing.T) {
	p := pooled(t, 1, 4)
	x := made(t, p, 1, api.Block)
	whole := []byte{1, 2, 3, 4, 5, 6}
	claimed(t, x, 3)
	same(t, "Fill", int(x.Fill(0, whole[1:4])), 0)
	x.Publish(0)
	peeks(t, x, 0, 2, 3, 4)
	same(t, "the whole", whole, []byte{1, 2, 3, 4, 5, 6})
}

// 12.3: what was published is read at its offset as it was filled, till its place goes, and by whoever read it, till it is given back, while others come and go.
func TestKept(t *testing.T) {
	p := pooled(t, api.MaxSlots, 8)
	x, y := made(t, p, api.MaxRing, api.Block), made(t, p, 2, api.Over)
	held := []int{}
	for i := range api.MaxRing {
		published(t, x, letters(i%9, byte(i))...)
		held = append(held, read(t, x, i))
	}
	for i := range 300 {
		published(t, y, letters(8, byte(i))...)
	}
	for at := range api.MaxRing {
		peeks(t, x, at, letters(at%9, byte(at))...)
		trimmed(t, x, at+1, 1)
		published(t, y, 0, 0)
	}
	for at, h := range held {
		reads(t, p, h, letters(at%9, byte(at))...)
		dropped(t, p, h, 0)
		published(t, x, letters(8, 200)...)
	}
}

// 12.5: one that blocks loses nothing: what was claimed is there till it is trimmed.
func TestBlockLosesNothing(t *testing.T) {
	for _, room := range edgeRooms {
		p := pooled(t, api.MaxSlots, 1)
		x := made(t, p, room, api.Block)
		for i := range room {
			published(t, x, byte(i))
		}
		for range 3 {
			unclaimed(t, p, x, 1, api.ErrRing)
		}
		for at := range room {
			peeks(t, x, at, byte(at))
		}
		trimmed(t, x, 1, 1)
		at, _ := claimed(t, x, 1)
		same(t, "behind a trim", answers(at, x.Head()), answers(room, 1))
		unclaimed(t, p, x, 1, api.ErrRing)
	}
}

// 12.5: one that does not block loses its eldest place, one for each that has no room.
func TestOverLosesTheEldest(t *testing.T) {
	for _, room := range edgeRooms {
		p := pooled(t, room, 1)
		x := made(t, p, room, api.Over)
		for i := range 3 * room {
			published(t, x, byte(i))
			head := max(0, i+1-room)
			same(t, "head, tail", answers(x.Head(), x.Tail()), answers(head, i+1))
			for at := head; at <= i; at++ {
				peeks(t, x, at, byte(at))
			}
		}
		at, _ := claimed(t, x, 1)
		for behind := at - room + 1; behind < at; behind++ { // the eldest go as far as they are published
			same(t, "the eldest", x.Head(), behind)
			claimed(t, x, 1)
		}
		unclaimed(t, p, x, 1, api.ErrRing)
	}
}

// 12.6: what happens in one partition moves no other one's window, though they have one pool.
func TestApart(t *testing.T) {
	p := pooled(t, 6, 2)
	others := []*part.Part{made(t, p, 1, api.Over), made(t, p, 2, api.Block)}
	published(t, others[0], 1)
	published(t, others[1], 2)
	claimed(t, others[1], 1)
	x := made(t, p, 3, api.Over)
	for i := range 20 {
		published(t, x, byte(i), byte(i))
		h := read(t, x, i)
		trimmed(t, x, i/3, max(0, i/3-x.Head()))
		dropped(t, p, h, 1)
		window(t, others[0], 0, 1, 1, 1)
		window(t, others[1], 0, 2, 1, 2, 3)
		peeks(t, others[0], 0, 1)
		peeks(t, others[1], 0, 2)
	}
	trimmed(t, x, 20, 20-x.Head())
	window(t, others[0], 0, 1, 1, 1)
	window(t, others[1], 0, 2, 1, 2, 3)
}

// 12.6: one that has no envelope lets no other one's head go, but takes what another gives back.
func TestApartWithoutEnvelopes(t *testing.T) {
	p := pooled(t, 2, 1)
	x, y := made(t, p, 2, api.Over), made(t, p, 1, api.Over)
	published(t, x, 1)
	published(t, x, 2)
	unclaimed(t, p, y, 1, api.ErrPool)
	window(t, x, 0, 2, 2, 1, 2)
	trimmed(t, x, 1, 1)
	at, h := published(t, y, 3)
	same(t, "what another gave back", answers(at, h), answers(0, of(0, 1)))
	unclaimed(t, p, x, 1, api.ErrPool) // there is room, and no envelope
	window(t, x, 1, 2, 2, 2)
	window(t, y, 0, 1, 1, of(0, 1))
}

// 12.1, 12.6: others take of the pool by themselves: what they have no partition has, and what they give back each may take.
func TestOthersOverThePool(t *testing.T) {
	p := pooled(t, 2, 1)
	x := made(t, p, 2, api.Over)
	h, e := p.Take(1)
	same(t, "Take", answers(h, e), answers(1, 0))
	at, mine := published(t, x, 4)
	same(t, "Claim", answers(at, mine), answers(0, 2))
	unclaimed(t, p, x, 1, api.ErrPool)
	same(t, "Fill of the other one's", int(p.Fill(h, 9)), 0)
	peeks(t, x, 0, 4)
	dropped(t, p, h, 0)
	at, mine = published(t, x, 5)
	same(t, "Claim", answers(at, mine), answers(1, of(0, 1)))
}

// P1, P2: others who give back what is not theirs harm nothing but that: no call panics, and a refused one changes nothing.
func TestOthersWhoDropAPlacesCount(t *testing.T) {
	p := pooled(t, 1, 1)
	x, y := made(t, p, 1, api.Over), made(t, p, 1, api.Over)
	_, h := published(t, x, 1)
	dropped(t, p, h, 0)
	_, other := published(t, y, 2) // has the slot in its next generation
	unread(t, p, x, 0, api.ErrStale)
	unclaimed(t, p, x, 1, api.ErrPool) // its head's place has nothing to give back
	peeks(t, y, 0, 2)
	at, next := claimed(t, y, 1)
	same(t, "the other one's", answers(at, other, next), answers(1, of(0, 1), of(0, 2)))
	trimmed(t, x, 1, 1)
	counts(t, p, 1)
	unfilled(t, p, x, 0, []byte{1}, api.ErrWindow)
	dropped(t, p, next, 0)
	same(t, "Fill of what was dropped", int(y.Fill(1, []byte{3})), int(api.ErrStale))
	at, _ = published(t, x, 3)
	peeks(t, x, at, 3)
}

// P2: equal calls of equal partitions are answered alike.
func TestAlike(t *testing.T) {
	run := func() string {
		p, x := moved(t, api.Over)
		for i := range 30 {
			if at, _, e := x.Claim(i % 4); e == api.OK {
				x.Fill(at, bytes.Repeat([]byte{byte(i)}, i%4))
			}
			x.Publish(i)
			x.Read(i - 1)
			p.Drop(x.Handles()[0])
		}
		return told(p, x)
	}
	same(t, "the same calls", run(), run())
}
