package handle_test

import (
	"fmt"
	"math"
	"slices"
	"testing"

	"postrider/api"
	"postrider/handle"
)

const (
	last     = api.MaxOffset - 1            // generation
	greatest = api.MaxSlots * api.MaxOffset // handle
)

// The numbers that the document's limits, and the machine's, set apart.
var (
	edgeSlots = []int{0, 1, 2, 63, 64, api.MaxSlots - 2, api.MaxSlots - 1}
	noSlots   = []int{math.MinInt, math.MinInt + 1, -api.MaxSlots, -1, api.MaxSlots, api.MaxSlots + 1, 2 * api.MaxSlots, api.MaxOffset, math.MaxInt}
	edgeGens  = []int{0, 1, 2, 127, 128, 1<<31 - 1, 1 << 31, 1<<32 - 1, 1 << 32, last / 2, last - 1, last}
	noGens    = []int{math.MinInt, math.MinInt / api.MaxSlots, -api.MaxOffset, -2, -1, api.MaxOffset, api.MaxOffset + 1, 1 << 56, 1 << 57, math.MaxInt}
	noHandles = []int{math.MinInt, math.MinInt + 1, -greatest, -api.MaxSlots - 1, -api.MaxSlots, -2, -1, 0, greatest + 1, greatest + 2, greatest + api.MaxSlots, 2 * greatest, math.MaxInt - 1, math.MaxInt}
)

func same(t *testing.T, what string, got, want any) {
	t.Helper()
	if g, w := fmt.Sprint(got), fmt.Sprint(want); g != w {
		t.Errorf("%s: %s, want %s", what, g, w)
	}
}

// answers are a call's results in a row, errors as numbers.
func answers(results ...any) []any {
	for i, r := range results {
		if e, ok := r.(api.Errno); ok {
			results[i] = int(e)
		}
	}
	return results
}

// of is the handle of a slot and a generation that may be.
func of(t *testing.T, slot, gen int) int {
	t.Helper()
	h, e := handle.Of(slot, gen)
	if e != api.OK || h < 1 {
		t.Fatalf("Of(%d, %d): %d, %d, want a handle", slot, gen, h, int(e))
	}
	return h
}

// hold holds one handle against the slot and the generation that it stands for, and the calls of 4.1 against one another.
func hold(t *testing.T, h, slot, gen int) {
	t.Helper()
	made, e := handle.Of(slot, gen)
	s, f := handle.Slot(h)
	g, i := handle.Gen(h)
	if made != h || s != slot || g != gen || e != api.OK || f != api.OK || i != api.OK {
		t.Errorf("handle %d: Of(%d, %d): %d, %d; Slot: %d, %d; Gen: %d, %d", h, slot, gen, made, int(e), s, int(f), g, int(i))
	}
	want, err := h+api.MaxSlots, api.OK
	if gen == last {
		want, err = 0, api.ErrArg
	}
	if n, e := handle.Next(h); n != want || e != err {
		t.Errorf("Next(%d): %d, %d, want %d, %d", h, n, int(e), want, int(err))
	}
}

// books are lists of generations of all sorts, of few and of many slots.
func books() [][]int {
	l := [][]int{nil, {}, {0}, {1}, {last}, {0, 0}, {0, 1}, {1, 0}, {last, 0}, {0, 0, 0, 2}, {5, 5, 5}, edgeGens}
	for _, n := range []int{3, 64, api.MaxSlots - 1, api.MaxSlots} {
		rising, mixed := make([]int, n), make([]int, n)
		for slot := range n {
			rising[slot] = slot
			mixed[slot] = edgeGens[slot*7%len(edgeGens)]
		}
		l = append(l, make([]int, n), rising, mixed)
	}
	return l
}

// short names a book in few letters.
func short(book []int) string {
	if len(book) > 8 {
		return fmt.Sprint(len(book), " slots from ", book[:8], " on")
	}
	return fmt.Sprint(book)
}

func Example() {
	fmt.Println(handle.Of(3, 0))
	fmt.Println(handle.Of(3, 2))
	fmt.Println(handle.Live([]int{0, 0, 0, 2}, 4))
	fmt.Println(handle.Live([]int{0, 0, 0, 2}, 260))
	fmt.Println(handle.All(0, 0, 0, 2))
	// Output:
	// 4 error 0
	// 260 error 0
	// 0 error 40
	// 3 error 0
	// [1 2 3 260] error 0
}

// 4.1: handles that are counted by hand, the least and the greatest among them.
func TestKnownHandles(t *testing.T) {
	for _, c := range []struct{ h, slot, gen int }{
		{1, 0, 0}, {2, 1, 0}, {4, 3, 0}, {128, 127, 0}, {129, 0, 1}, {256, 127, 1}, {257, 0, 2}, {260, 3, 2},
		{140737488355201, 0, 1099511627775}, {140737488355200, 127, 1099511627774}, {140737488355328, 127, 1099511627775},
	} {
		hold(t, c.h, c.slot, c.gen)
	}
}

// 4.1, 4.3: counted up from the least handle, and down from the greatest one, each slot's turn comes within each generation's.
func TestHandlesInARow(t *testing.T) {
	h := 0
	for gen := range 300 {
		for slot := range api.MaxSlots {
			h++
			hold(t, h, slot, gen)
			hold(t, greatest+1-h, api.MaxSlots-1-slot, last-gen)
		}
	}
}

// 4.1, 4.3: all slots, with generations that the limits set apart.
func TestEdges(t *testing.T) {
	seen := map[int]int{}
	for _, gen := range edgeGens {
		for slot := range api.MaxSlots {
			h := of(t, slot, gen)
			hold(t, h, slot, gen)
			seen[h]++
			if slot > 0 && h != of(t, slot-1, gen)+1 {
				t.Errorf("the handle of slot %d in generation %d is not behind that of the slot ahead", slot, gen)
			}
		}
	}
	same(t, "how many handles there are", len(seen), len(edgeGens)*api.MaxSlots)
}

// 4.3: numbers of all sizes are the handles of just one slot and generation.
func TestNumbersLeadBack(t *testing.T) {
	for h := 1; h <= greatest; h += h/3 + 1 {
		slot, e := handle.Slot(h)
		gen, f := handle.Gen(h)
		back, g := handle.Of(slot, gen)
		same(t, fmt.Sprint("handle ", h), answers(back, e, f, g), answers(h, 0, 0, 0))
	}
}

// 4.1: a slot or a generation that may not be makes no handle, whatever the other one is.
func TestOfErrArg(t *testing.T) {
	for _, c := range []struct{ slots, gens []int }{{noSlots, edgeGens}, {edgeSlots, noGens}, {noSlots, noGens}} {
		for _, slot := range c.slots {
			for _, gen := range c.gens {
				h, e := handle.Of(slot, gen)
				same(t, fmt.Sprint("Of(", slot, ", ", gen, ")"), answers(h, e), answers(0, api.ErrArg))
			}
		}
	}
}

// 4.1, 4.2, P1: a number that is no handle is refused by each call, and of Live ahead of all else.
func TestNoHandles(t *testing.T) {
	for _, h := range noHandles {
		slot, e := handle.Slot(h)
		gen, f := handle.Gen(h)
		next, g := handle.Next(h)
		same(t, fmt.Sprint("number ", h), answers(slot, e, gen, f, next, g), answers(0, api.ErrArg, 0, api.ErrArg, 0, api.ErrArg))
		for _, book := range books() {
			at, e := handle.Live(book, h)
			same(t, fmt.Sprint("Live of ", h, " in ", short(book)), answers(at, e), answers(0, api.ErrArg))
		}
	}
}

// 4.1: Next goes on slot by slot up to the last generation, behind which there is none.
func TestNext(t *testing.T) {
	for _, slot := range edgeSlots {
		h := of(t, slot, 0)
		for gen := 1; gen <= 1000; gen++ {
			n, e := handle.Next(h)
			same(t, fmt.Sprint("Next of ", h), answers(n, e), answers(of(t, slot, gen), 0))
			h = n
		}
		n, e := handle.Next(of(t, slot, last-1))
		same(t, "Next to the last generation", answers(n, e), answers(of(t, slot, last), 0))
		n, e = handle.Next(n)
		same(t, "Next of the last generation", answers(n, e), answers(0, api.ErrArg))
	}
}

// 4.2: of each slot of a book just the handle of its generation is live; others are stale, and slots behind the book are none.
func TestLive(t *testing.T) {
	for _, book := range books() {
		for slot := range api.MaxSlots {
			gens := edgeGens
			if slot < len(book) {
				gens = append(slices.Clone(edgeGens), book[slot], min(book[slot]+1, last), max(book[slot]-1, 0))
			}
			for _, gen := range gens {
				want := answers(0, api.ErrNone)
				if slot < len(book) && book[slot] == gen {
					want = answers(slot, 0)
				} else if slot < len(book) {
					want = answers(0, api.ErrStale)
				}
				at, e := handle.Live(book, of(t, slot, gen))
				same(t, fmt.Sprint("Live of slot ", slot, ", generation ", gen, ", in ", short(book)), answers(at, e), want)
			}
		}
	}
}

// 4.2: a handle's generation is held against its own slot's, not against that of a slot beside it.
func TestLiveInItsOwnSlot(t *testing.T) {
	book := []int{3, 4, 5}
	for slot := range book {
		for other, gen := range book {
			want := answers(0, api.ErrStale)
			if slot == other {
				want = answers(slot, 0)
			}
			at, e := handle.Live(book, of(t, slot, gen))
			same(t, fmt.Sprint("Live of slot ", slot, ", generation ", gen), answers(at, e), want)
		}
	}
}

// 4.2: all that All answers is live, slot by slot, and of many handles no other one is.
func TestAll(t *testing.T) {
	for _, book := range books() {
		list, e := handle.All(book...)
		same(t, "All of "+short(book), answers(len(list), e), answers(len(book), 0))
		live := map[int]int{}
		for slot, h := range list {
			at, e := handle.Live(book, h)
			same(t, fmt.Sprint("Live of ", h, " in ", short(book)), answers(at, e, h), answers(slot, 0, of(t, slot, book[slot])))
			live[h]++
		}
		for _, gen := range append(slices.Clone(edgeGens), 3, 4, 5, 6, 50, 100) {
			for slot := range api.MaxSlots {
				h := of(t, slot, gen)
				if _, e := handle.Live(book, h); (e == api.OK) != (live[h] == 1) {
					t.Errorf("%d in %s: Live tells %d, in All %d times", h, short(book), int(e), live[h])
				}
			}
		}
	}
}

// 4.2: handles of one generation rise with their slots.
func TestAllRises(t *testing.T) {
	for _, gen := range edgeGens {
		list, e := handle.All(slices.Repeat([]int{gen}, api.MaxSlots)...)
		if e != api.OK || len(list) != api.MaxSlots || !slices.IsSorted(list) || list[0] != of(t, 0, gen) {
			t.Errorf("All of generation %d: %v, %d", gen, list, int(e))
		}
	}
}

// 4.2: a book of more than MaxSlots is refused, whatever its generations are.
func TestAllOfTooMany(t *testing.T) {
	for _, n := range []int{api.MaxSlots + 1, api.MaxSlots + 2, 2 * api.MaxSlots, 100000} {
		for _, gen := range []int{0, 1, last, -1, api.MaxOffset} {
			list, e := handle.All(slices.Repeat([]int{gen}, n)...)
			same(t, fmt.Sprint("All of ", n, " times ", gen), answers(len(list), e), answers(0, api.ErrArg))
		}
	}
}

// 4.2: a generation that may not be is refused wherever it stands, and no handle is told beside the error.
func TestAllOfNoGeneration(t *testing.T) {
	for _, n := range []int{1, 2, 3, api.MaxSlots} {
		for _, at := range []int{0, n / 2, n - 1} {
			for _, gen := range noGens {
				book := make([]int, n)
				book[at] = gen
				list, e := handle.All(book...)
				same(t, fmt.Sprint("All of ", n, " with ", gen, " at ", at), answers(len(list), e), answers(0, api.ErrArg))
			}
		}
	}
}

// P1: lists that are no books are told of without panic, and nothing is live at a slot whose generation may not be.
func TestLiveInNoBook(t *testing.T) {
	for _, n := range []int{1, 2, api.MaxSlots, api.MaxSlots + 1, 1000} {
		for _, no := range noGens {
			book := slices.Repeat([]int{no}, n)
			for _, slot := range edgeSlots {
				for _, gen := range edgeGens {
					if at, e := handle.Live(book, of(t, slot, gen)); at != 0 || e == api.OK {
						t.Errorf("slot %d, generation %d is live among %d times %d: %d", slot, gen, n, no, at)
					}
				}
			}
			at, e := handle.Live(book, greatest+1)
			same(t, "Live of no handle", answers(at, e), answers(0, api.ErrArg))
		}
	}
}

// 4.4: a generation more in its book makes a handle stale for good, and its next one live; other slots' stay as they are.
func TestAGenerationMore(t *testing.T) {
	for _, from := range books() {
		for _, slot := range []int{0, 1, len(from) / 2, len(from) - 1} {
			if slot < 0 || slot >= len(from) || from[slot] > last-3 {
				continue
			}
			book := slices.Clone(from)
			elder := []int{}
			for range 3 {
				was, _ := handle.All(book...)
				next, e := handle.Next(was[slot])
				_, f := handle.Live(book, next)
				same(t, "Next, and Live ahead of its generation", answers(e, f), answers(0, api.ErrStale))
				elder = append(elder, was[slot])
				book[slot]++
				for _, h := range elder {
					at, e := handle.Live(book, h)
					same(t, fmt.Sprint("Live of the elder ", h), answers(at, e), answers(0, api.ErrStale))
				}
				at, e := handle.Live(book, next)
				same(t, fmt.Sprint("Live of the next one ", next), answers(at, e), answers(slot, 0))
				was[slot] = next
				now, e := handle.All(book...)
				same(t, "All behind a generation more", answers(now, e), answers(was, 0))
			}
		}
	}
}

// 4.4: at the last generation a handle is live, its elder one stale, and it has no next one.
func TestLastGeneration(t *testing.T) {
	for _, slot := range edgeSlots {
		book := make([]int, api.MaxSlots)
		book[slot] = last
		h := of(t, slot, last)
		at, e := handle.Live(book, h)
		elder, f := handle.Live(book, h-api.MaxSlots)
		next, g := handle.Next(h)
		same(t, fmt.Sprint("slot ", slot), answers(at, e, elder, f, next, g), answers(slot, 0, 0, api.ErrStale, 0, api.ErrArg))
	}
}

// P2: nothing is kept from a call that is refused.
func TestRefusedChangesNothing(t *testing.T) {
	book := []int{4, 5}
	told := func() []any {
		h, e := handle.Of(1, 5)
		slot, f := handle.Slot(h)
		gen, g := handle.Gen(h)
		next, i := handle.Next(h)
		at, j := handle.Live(book, h)
		list, k := handle.All(book...)
		return answers(h, e, slot, f, gen, g, next, i, at, j, list, k)
	}
	was := told()
	handle.Of(-1, 5)
	handle.Slot(0)
	handle.Gen(greatest + 1)
	handle.Next(greatest)
	handle.Live(book, 1)
	handle.Live(nil, 1)
	handle.Live(book, 0)
	handle.All(4, -1)
	handle.All(make([]int, api.MaxSlots+1)...)
	same(t, "what is told behind calls that were refused", told(), was)
}

// What is handed in is not changed, and not kept; what is handed out is the caller's own.
func TestKeepsNothing(t *testing.T) {
	whole := []int{1, 2, 3, 9, 9}
	book := whole[:3]
	list, _ := handle.All(book...)
	handle.Live(book, list[0])
	again, _ := handle.All(book...)
	list[0] = -7
	_ = append(list[:1], -8, -8)
	same(t, "the caller's book", whole, []int{1, 2, 3, 9, 9})
	same(t, "another list of the same book", again, []int{of(t, 0, 1), of(t, 1, 2), of(t, 2, 3)})
	book[1] = 6
	now, _ := handle.All(book...)
	same(t, "lists behind a change of the book", answers(again, now),
		answers([]int{of(t, 0, 1), of(t, 1, 2), of(t, 2, 3)}, []int{of(t, 0, 1), of(t, 1, 6), of(t, 2, 3)}))
	_, e := handle.Live(book, of(t, 1, 2))
	_, f := handle.Live(book, of(t, 1, 6))
	same(t, "Live behind a change of the book", answers(e, f), answers(api.ErrStale, 0))
}
