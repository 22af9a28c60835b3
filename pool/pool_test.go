package pool_test

import (
	"bytes"
	"fmt"
	"math"
	"slices"
	"testing"

	"postrider/api"
	"postrider/handle"
	"postrider/pool"
)

const greatest = api.MaxSlots * api.MaxOffset // handle

// The numbers that the document's limits, and the machine's, set apart.
var (
	edgeSlots = []int{1, 2, 3, 64, api.MaxSlots - 1, api.MaxSlots}
	edgeSizes = []int{1, 2, 3, 64, api.MaxSize - 1, api.MaxSize}
	noSlots   = []int{math.MinInt, -api.MaxSlots, -1, 0, api.MaxSlots + 1, 2 * api.MaxSlots, api.MaxOffset, math.MaxInt}
	noSizes   = []int{math.MinInt, -api.MaxSize, -1, 0, api.MaxSize + 1, 2 * api.MaxSize, api.MaxOffset, math.MaxInt}
	below     = []int{math.MinInt, math.MinInt + 1, -api.MaxSize, -2, -1}
	noHandles = []int{math.MinInt, -greatest, -api.MaxSlots - 1, -api.MaxSlots, -1, 0, greatest + 1, greatest + api.MaxSlots, math.MaxInt}
)

func same(t *testing.T, what string, got, want any) {
	t.Helper()
	if g, w := fmt.Sprint(got), fmt.Sprint(want); g != w {
		t.Errorf("%s: %s, want %s", what, g, w)
	}
}

// answers are a call's results in a row, errors as numbers.
func answers(results ...any) []any {
	for i, r := range results {
		if e, ok := r.(api.Errno); ok {
			results[i] = int(e)
		}
	}
	return results
}

// unmade are the pools that no call made.
func unmade() map[string]*pool.Pool {
	return map[string]*pool.Pool{"nil": nil, "plain": {}, "new": new(pool.Pool)}
}

func made(t *testing.T, slots, size int) *pool.Pool {
	t.Helper()
	p, e := pool.Make(slots, size)
	if p == nil || e != api.OK {
		t.Fatalf("Make(%d, %d): %v, %d, want a pool", slots, size, p, int(e))
	}
	return p
}

// taken is the handle of a slot that was taken for n bytes.
func taken(t *testing.T, p *pool.Pool, n int) int {
	t.Helper()
	h, e := p.Take(n)
	if e != api.OK || h < 1 {
		t.Fatalf("Take(%d): %d, %d, want a handle", n, h, int(e))
	}
	return h
}

// filled is the handle of a slot that was taken and filled.
func filled(t *testing.T, p *pool.Pool, b ...byte) int {
	t.Helper()
	h := taken(t, p, len(b))
	same(t, "Fill", int(p.Fill(h, b...)), 0)
	return h
}

// dropped drops a handle of which this is the last count.
func dropped(t *testing.T, p *pool.Pool, h int) {
	t.Helper()
	n, e := p.Drop(h)
	same(t, fmt.Sprint("the last Drop of ", h), answers(n, e), answers(0, 0))
}

// of is the handle of a slot and a generation that may be.
func of(slot, gen int) int { return gen*api.MaxSlots + slot + 1 }

// letters are n bytes that begin with one, and go on.
func letters(n int, first byte) []byte {
	b := make([]byte, n)
	for i := range b {
		b[i] = first + byte(i)
	}
	return b
}

// rising are the numbers from one up to another, that not with it.
func rising(from, to int) []int {
	l := []int{}
	for ; from < to; from++ {
		l = append(l, from)
	}
	return l
}

// read is what Bytes tells of a handle.
func read(p *pool.Pool, h int) []any {
	b, e := p.Bytes(h)
	return answers(b, len(b), e)
}

// told is all that calls tell of a pool, of the handle of each slot's generation too.
func told(p *pool.Pool) string {
	s := fmt.Sprint(p.Slots(), p.Size(), p.Free())
	for slot := range p.Slots() {
		s += fmt.Sprint(" ", p.Count(slot), p.Gen(slot), read(p, of(slot, p.Gen(slot))))
	}
	return s
}

// refused holds that each call by a handle refuses it with one error, and changes nothing.
func refused(t *testing.T, p *pool.Pool, h int, want api.Errno) {
	t.Helper()
	was := told(p)
	count, e1 := p.Drop(h)
	b, e2 := p.Bytes(h)
	got := answers(p.Keep(h), count, e1, len(b), e2)
	for n := range 4 { // right and wrong numbers of bytes: the handle's error comes first
		got = append(got, int(p.Fill(h, letters(n, 200)...)))
	}
	w := int(want)
	same(t, fmt.Sprint("calls by handle ", h), got, answers(w, 0, w, 0, w, w, w, w, w))
	same(t, fmt.Sprint("what is told behind calls by handle ", h), told(p), was)
}

func Example() {
	p, _ := pool.Make(2, 4)
	fmt.Println(p.Take(2))
	fmt.Println(p.Fill(1, 7, 8))
	fmt.Println(p.Bytes(1))
	fmt.Println(p.Drop(1))
	fmt.Println(p.Take(0))
	fmt.Println(p.Bytes(1))
	// Output:
	// 1 error 0
	// error 0
	// [7 8] error 0
	// 0 error 0
	// 129 error 0
	// [] error 40
}

// 5.1, 5.3: from the least to the greatest pool, all slots are free, slot 0 on top, in generation 0.
func TestMake(t *testing.T) {
	for slots := 1; slots <= api.MaxSlots; slots++ {
		for _, size := range edgeSizes {
			p := made(t, slots, size)
			same(t, "a new pool", answers(p.Slots(), p.Size(), p.Free()), answers(slots, size, rising(0, slots)))
			for slot := range slots {
				same(t, "a new slot", answers(p.Count(slot), p.Gen(slot)), answers(0, 0))
			}
		}
	}
	for size := 1; size <= api.MaxSize; size++ {
		same(t, "Size", made(t, 1, size).Size(), size)
	}
}

// 5.1: numbers of slots or of bytes that may not be make no pool.
func TestMakeErrArg(t *testing.T) {
	for _, c := range []struct{ slots, sizes []int }{{noSlots, edgeSizes}, {edgeSlots, noSizes}, {noSlots, noSizes}} {
		for _, slots := range c.slots {
			for _, size := range c.sizes {
				if p, e := pool.Make(slots, size); p != nil || e != api.ErrArg {
					t.Errorf("Make(%d, %d): %v, %d, want nil and ErrArg", slots, size, p, int(e))
				}
			}
		}
	}
}

// 5.1: two pools have nothing to do with one another.
func TestMakeApart(t *testing.T) {
	a, b := made(t, 2, 3), made(t, 2, 3)
	h := filled(t, b, 1, 2, 3)
	was := told(b)
	a.Take(3)
	a.Fill(h, 7, 8, 9)
	a.Keep(h)
	a.Take(1)
	same(t, "the other pool", told(b), was)
	a.Drop(h)
	a.Drop(h)
	same(t, "the other pool", told(b), was)
}

// 5.1, 5.7: each slot can be taken once, slot 0 first, and then none any more till one is given back.
func TestAsManyAsThereAre(t *testing.T) {
	for slots := 1; slots <= api.MaxSlots; slots++ {
		p := made(t, slots, 2)
		for slot := range slots {
			same(t, "Take", taken(t, p, 1), of(slot, 0))
			same(t, "behind Take", answers(p.Free(), p.Count(slot), p.Gen(slot)), answers(rising(slot+1, slots), 1, 0))
		}
		was := told(p)
		for _, n := range []int{0, 1, 2} {
			h, e := p.Take(n)
			same(t, "Take of no slot", answers(h, e), answers(0, api.ErrPool))
		}
		same(t, "what is told behind Take of no slot", told(p), was)
		for _, slot := range []int{slots - 1, 0, slots / 2} {
			dropped(t, p, of(slot, p.Gen(slot)))
			same(t, "the one that was given back", p.Free(), []int{slot})
			same(t, "Take", taken(t, p, 2), of(slot, p.Gen(slot)))
			h, e := p.Take(2)
			same(t, "Take of no slot again", answers(h, e), answers(0, api.ErrPool))
		}
	}
}

// 5.1: of Take's errors ErrArg comes first, then ErrLong, then ErrPool; none of them changes anything.
func TestTakeErrors(t *testing.T) {
	for _, size := range edgeSizes {
		p := made(t, 2, size)
		for free := 2; free >= 0; free-- {
			was := told(p)
			for _, n := range below {
				h, e := p.Take(n)
				same(t, fmt.Sprint("Take(", n, ")"), answers(h, e), answers(0, api.ErrArg))
			}
			for _, n := range []int{size + 1, size + 2, 2*size + 1, api.MaxSize + 1, api.MaxOffset, math.MaxInt} {
				h, e := p.Take(n)
				same(t, fmt.Sprint("Take(", n, ") of ", size), answers(h, e), answers(0, api.ErrLong))
			}
			same(t, "what is told behind what was refused", told(p), was)
			if free > 0 {
				taken(t, p, size)
			}
		}
		h, e := p.Take(size)
		same(t, "Take of no slot", answers(h, e), answers(0, api.ErrPool))
	}
}

// 5.1: what is taken has so many noughts, from none to as many as there is room for, whatever was filled in ahead.
func TestNoughts(t *testing.T) {
	for _, size := range edgeSizes {
		p := made(t, 1, size)
		for n := range size + 1 {
			h := taken(t, p, n)
			same(t, fmt.Sprint("bytes of Take(", n, ")"), read(p, h), answers(make([]byte, n), n, 0))
			dropped(t, p, h)
			dropped(t, p, filled(t, p, bytes.Repeat([]byte{255}, size)...))
		}
		for n := size; n >= 0; n-- {
			h := filled(t, p, letters(n, 1)...)
			same(t, fmt.Sprint("bytes of Fill of ", n), read(p, h), answers(letters(n, 1), n, 0))
			dropped(t, p, h)
		}
	}
}

// 5.1: as many bytes are filled in as were taken for, all of them, as often as it is wished.
func TestFill(t *testing.T) {
	for _, size := range edgeSizes {
		p := made(t, 2, size)
		for n := range size + 1 {
			h := taken(t, p, n)
			for _, first := range []byte{1, 250, 0, 128} {
				same(t, "Fill", int(p.Fill(h, letters(n, first)...)), 0)
				for range 2 { // reading takes nothing away
					same(t, "bytes that were filled", read(p, h), answers(letters(n, first), n, 0))
				}
			}
			was := told(p)
			for m := range size + 3 {
				if m != n {
					same(t, fmt.Sprint("Fill of ", n, " with ", m), int(p.Fill(h, letters(m, 77)...)), int(api.ErrArg))
				}
			}
			same(t, "Fill of a great number", int(p.Fill(h, make([]byte, 100000)...)), int(api.ErrArg))
			same(t, "what is told behind what was refused", told(p), was)
			dropped(t, p, h)
		}
	}
}

// 5.2: a count is one more by each Keep, and one less by each Drop, which tells it; at 0 the slot is given back, and a generation on.
func TestKeepAndDrop(t *testing.T) {
	for _, slots := range edgeSlots {
		p := made(t, slots, 2)
		for gen := range 5 {
			h := filled(t, p, 4, byte(gen))
			for count := 2; count <= 50; count++ {
				same(t, "Keep", answers(p.Keep(h), p.Count(0), p.Gen(0)), answers(0, count, gen))
			}
			for count := 49; count > 0; count-- {
				n, e := p.Drop(h)
				same(t, "Drop", answers(n, e, p.Count(0), p.Gen(0)), answers(count, 0, count, gen))
				same(t, "free ones, and bytes", answers(p.Free(), read(p, h)), answers(rising(1, slots), answers([]byte{4, byte(gen)}, 2, 0)))
			}
			dropped(t, p, h)
			same(t, "a slot that was given back", answers(p.Count(0), p.Gen(0), p.Free()), answers(0, gen+1, rising(0, slots)))
			refused(t, p, h, api.ErrStale)
			refused(t, p, of(0, gen+1), api.ErrStale) // free, though the generation is its own
		}
	}
}

// 5.2: each slot has a count of its own.
func TestCountsApart(t *testing.T) {
	p := made(t, api.MaxSlots, 1)
	want := make([]int, api.MaxSlots)
	for slot := range want {
		h := taken(t, p, 0)
		for range slot % 5 {
			p.Keep(h)
		}
		want[slot] = slot%5 + 1
	}
	for slot := range want {
		n, e := p.Drop(of(slot, 0))
		want[slot]--
		same(t, "Drop", answers(n, e), answers(want[slot], 0))
		counts := []int{}
		for at := range want {
			counts = append(counts, p.Count(at))
		}
		same(t, "counts", counts, want)
	}
}

// 5.3: of a slot that there is not count and generation are 0.
func TestTellingOfNoSuchSlot(t *testing.T) {
	for _, slots := range edgeSlots {
		p := made(t, slots, 1)
		for range slots {
			taken(t, p, 0)
		}
		for slot := range slots {
			dropped(t, p, of(slot, 0))
		}
		for range slots {
			p.Keep(taken(t, p, 0))
		}
		for slot := range slots {
			same(t, "a slot", answers(p.Count(slot), p.Gen(slot)), answers(2, 1))
		}
		for _, slot := range []int{math.MinInt, -slots, -2, -1, slots, slots + 1, api.MaxSlots, api.MaxSlots + 1, math.MaxInt} {
			same(t, fmt.Sprint("slot ", slot, " of ", slots), answers(p.Count(slot), p.Gen(slot)), answers(0, 0))
		}
	}
}

// 5.1, 5.3: the one that was given back last is on top, and is taken first.
func TestStack(t *testing.T) {
	p := made(t, 5, 1)
	for range 4 {
		taken(t, p, 1)
	}
	same(t, "free ones", p.Free(), []int{4})
	dropped(t, p, of(2, 0))
	same(t, "free ones behind one", p.Free(), []int{2, 4})
	dropped(t, p, of(0, 0))
	dropped(t, p, of(3, 0))
	same(t, "free ones behind several", p.Free(), []int{3, 0, 2, 4})
	same(t, "Take", taken(t, p, 1), of(3, 1))
	same(t, "free ones", p.Free(), []int{0, 2, 4})
	dropped(t, p, of(1, 0))
	same(t, "free ones", p.Free(), []int{1, 0, 2, 4})
	same(t, "Takes", []int{taken(t, p, 1), taken(t, p, 1), taken(t, p, 1), taken(t, p, 1)}, []int{of(1, 1), of(0, 1), of(2, 1), of(4, 0)})
	same(t, "no free ones", len(p.Free()), 0)
	dropped(t, p, of(4, 0))
	same(t, "Take of the same again", taken(t, p, 0), of(4, 1))
}

// 5.4, 5.7: all slots are taken and given back in some order, and then taken in just the other one.
func TestAllTakenAndGivenBack(t *testing.T) {
	for _, slots := range edgeSlots {
		p := made(t, slots, 1)
		order := rising(0, slots)
		for round := range 4 {
			for _, slot := range order {
				same(t, "Take", taken(t, p, 1), of(slot, round))
			}
			h, e := p.Take(0)
			same(t, "Take of no slot", answers(h, e, len(p.Free())), answers(0, api.ErrPool, 0))
			order = order[:0]
			for _, first := range []int{round % 2, 1 - round%2} { // every other one, then the rest
				for slot := first; slot < slots; slot += 2 {
					order = append(order, slot)
				}
			}
			for at, slot := range order {
				dropped(t, p, of(slot, round))
				same(t, "how many are free", len(p.Free()), at+1)
			}
			slices.Reverse(order)
			same(t, "free ones", p.Free(), order)
		}
	}
}

// 5.1, 5.2, P1, P2: numbers that are no handles, handles of slots that there are not, of other generations, and of free slots.
func TestHandlesThatAreNotLive(t *testing.T) {
	for _, slots := range edgeSlots {
		p := made(t, slots, 3)
		dropped(t, p, filled(t, p, 1, 2, 3)) // slot 0 in generation 1
		same(t, "Take", taken(t, p, 2), of(0, 1))
		for range slots / 2 { // some more are live, the others free
			taken(t, p, 3)
		}
		for _, h := range noHandles {
			refused(t, p, h, api.ErrArg)
		}
		for slot := slots; slot < api.MaxSlots; slot++ {
			refused(t, p, of(slot, 0), api.ErrNone)
			refused(t, p, of(slot, 1), api.ErrNone)
			refused(t, p, of(slot, api.MaxOffset-1), api.ErrNone)
		}
		for slot := range slots {
			for _, gen := range []int{0, 1, 2, api.MaxOffset - 2, api.MaxOffset - 1} {
				if gen != p.Gen(slot) || p.Count(slot) == 0 {
					refused(t, p, of(slot, gen), api.ErrStale)
				}
			}
		}
	}
}

// 5.5: behind its last count a handle is stale for good, however often its slot is taken again.
func TestStaleForGood(t *testing.T) {
	p := made(t, 2, 3)
	elder := []int{}
	for gen := range 60 {
		h := filled(t, p, 1, byte(gen))
		for _, old := range elder {
			refused(t, p, old, api.ErrStale)
		}
		same(t, "the bytes behind calls by stale handles", read(p, h), answers([]byte{1, byte(gen)}, 2, 0))
		dropped(t, p, h)
		elder = append(elder, h)
		if slices.Index(elder, h) != gen {
			t.Errorf("handle %d was given twice", h)
		}
	}
	for _, old := range elder {
		refused(t, p, old, api.ErrStale)
	}
}

// 5.6: what was filled in is read till its count is 0, whatever happens to others.
func TestBytesAreKept(t *testing.T) {
	p := made(t, 3, api.MaxSize)
	kept := letters(api.MaxSize, 9)
	h := filled(t, p, kept...)
	p.Keep(h)
	p.Drop(h)
	for round := range 100 {
		n := round * 31 % (api.MaxSize + 1)
		a := filled(t, p, letters(n, byte(round))...)
		b := filled(t, p, letters(api.MaxSize-n, byte(3*round))...)
		p.Take(1) // refused
		same(t, "the one that is kept", read(p, h), answers(kept, api.MaxSize, 0))
		same(t, "another one", read(p, a), answers(letters(n, byte(round)), n, 0))
		same(t, "a third one", read(p, b), answers(letters(api.MaxSize-n, byte(3*round)), api.MaxSize-n, 0))
		p.Fill(a, letters(n, byte(round+1))...)
		dropped(t, p, b)
		same(t, "the one that is kept", read(p, h), answers(kept, api.MaxSize, 0))
		same(t, "another one", read(p, a), answers(letters(n, byte(round+1)), n, 0))
		dropped(t, p, a)
	}
	same(t, "the one that is kept", read(p, h), answers(kept, api.MaxSize, 0))
	dropped(t, p, h)
	same(t, "behind its last count", read(p, h), answers([]byte{}, 0, api.ErrStale))
}

// 5.3, 5.4: free and live slots are all slots, and a slot's handle is live just if its count is not 0.
func TestCounted(t *testing.T) {
	p := made(t, api.MaxSlots, 1)
	for i := range 2000 {
		switch slot := i * 37 % api.MaxSlots; {
		case i%3 > 0:
			p.Take(i % 2)
		case i%5 > 0:
			p.Drop(of(slot, p.Gen(slot)))
		default:
			p.Keep(of(slot, p.Gen(slot)))
		}
		free := p.Free()
		for slot := range api.MaxSlots {
			h, _ := handle.Of(slot, p.Gen(slot))
			_, e := p.Bytes(h)
			isFree := slices.Contains(free, slot)
			if isFree != (p.Count(slot) == 0) || isFree != (e == api.ErrStale) || !isFree != (e == api.OK) {
				t.Fatalf("behind %d calls: slot %d: count %d, Bytes %d, free ones %v", i+1, slot, p.Count(slot), int(e), free)
			}
		}
		slices.Sort(free)
		if n := len(slices.Compact(free)); n != len(free) {
			t.Fatalf("behind %d calls: a slot is free twice: %v", i+1, p.Free())
		}
	}
}

// What is filled in is not changed and not kept.
func TestBytesFilledInAreTheCallers(t *testing.T) {
	p := made(t, 2, 4)
	whole := []byte{1, 2, 3, 9, 9}
	h := filled(t, p, whole[:3]...)
	same(t, "the caller's bytes", whole, []byte{1, 2, 3, 9, 9})
	whole[0] = 77
	same(t, "the bytes behind a change of the caller's", read(p, h), answers([]byte{1, 2, 3}, 3, 0))
	other := filled(t, p, whole[:3]...)
	p.Fill(h, 4, 5, 6)
	same(t, "the caller's bytes", whole, []byte{77, 2, 3, 9, 9})
	same(t, "another one's bytes", read(p, other), answers([]byte{77, 2, 3}, 3, 0))
}

// The bytes and the list that are handed out are the caller's own.
func TestWhatIsHandedOutIsTheCallers(t *testing.T) {
	p := made(t, 4, 4)
	h := filled(t, p, 1, 2, 3)
	a, _ := p.Bytes(h)
	b, _ := p.Bytes(h)
	free, again := p.Free(), p.Free()
	was := told(p)
	a[0] = 50
	_ = append(a[:1], 51, 52, 53)
	free[0] = 3
	_ = append(free[:1], 7, 7, 7)
	same(t, "what is told", told(p), was)
	same(t, "another answer", answers(b, again), answers([]byte{1, 2, 3}, []int{1, 2, 3}))
	p.Fill(h, 6, 6, 6)
	taken(t, p, 4)
	dropped(t, p, h)
	taken(t, p, 3)
	same(t, "elder answers", answers(b, again), answers([]byte{1, 2, 3}, []int{1, 2, 3}))
	same(t, "a slot that was taken behind changes of a list", read(p, of(1, 0)), answers(make([]byte, 4), 4, 0))
}

// P1: of a pool that no call made, ErrNil comes ahead of all other errors, and all else is zero.
func TestNoPool(t *testing.T) {
	for name, p := range unmade() {
		for range 2 {
			for _, n := range append(slices.Clone(noHandles), 1, 2, 5, 129, greatest) {
				h, e1 := p.Take(n)
				count, e2 := p.Drop(n)
				b, e3 := p.Bytes(n)
				same(t, name, answers(h, e1, p.Fill(n), p.Fill(n, 1, 2), p.Keep(n), count, e2, len(b), e3), answers(0, 1, 1, 1, 1, 0, 1, 0, 1))
				same(t, name, answers(p.Count(n), p.Gen(n), len(p.Free()), p.Slots(), p.Size()), answers(0, 0, 0, 0, 0))
			}
			same(t, name, answers(p.Count(0), p.Gen(0)), answers(0, 0))
		}
	}
}
