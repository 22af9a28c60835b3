package cursor_test

import (
	"slices"
	"testing"

	"postrider/api"
	"postrider/cursor"
	"postrider/ring"
)

// reader goes on by Next alone, and writes down what it was told.
type reader struct {
	at   int
	read []int // offsets
	lost []int // offsets
}

// world is a ring, what was claimed and published in it, and its readers.
type world struct {
	t         *testing.T
	ring      *ring.Ring
	published []bool // of all offsets that were ever claimed
	readers   []reader
}

func newWorld(t *testing.T, room, policy, readers int) *world {
	t.Helper()
	return &world{t: t, ring: made(t, room, policy), readers: make([]reader, readers)}
}

// claim claims a place, if the ring has one.
func (w *world) claim() {
	if at, _, e := w.ring.Claim(refAt(len(w.published))); e == api.OK {
		if at != len(w.published) {
			w.t.Fatalf("claimed %d, want %d", at, len(w.published))
		}
		w.published = append(w.published, false)
	}
}

// publish publishes the place at an offset, if the ring lets it.
func (w *world) publish(at int) {
	if w.ring.Publish(at) == api.OK {
		w.published[at] = true
	}
}

// wanted is what the document's words say that a reader is told: where it is moved, what it meets there, and where it is then.
func (w *world) wanted(at int) (int, api.Errno, int) {
	moved := max(at, w.ring.Head())
	switch {
	case moved == len(w.published):
		return moved, api.ErrNone, moved
	case !w.published[moved]:
		return moved, api.ErrBusy, moved
	}
	return moved, api.OK, moved + 1
}

// goOn has a reader ask what it lost, and then for the next place, and holds what it is told against what it is to be.
func (w *world) goOn(i int) {
	w.t.Helper()
	x := &w.readers[i]
	head, tail, refs := w.ring.Head(), w.ring.Tail(), w.ring.Refs()
	moved, err, behind := w.wanted(x.at)
	span, e := cursor.Lost(x.at, w.ring)
	if e != api.OK || span == (api.Span{}) && moved != x.at || span != (api.Span{}) && (span != api.Span{From: x.at, To: moved} || moved == x.at) {
		w.t.Fatalf("Lost(%d), head %d: %v, %d", x.at, head, span, int(e))
	}
	ref, at, e := cursor.Next(x.at, w.ring)
	if e != err || at != behind || e == api.OK && ref != refAt(moved) || e != api.OK && ref != 0 {
		w.t.Fatalf("Next(%d), head %d, tail %d: %d, %d, %d, want %d, %d", x.at, head, tail, ref, at, int(e), behind, int(err))
	}
	if w.ring.Head() != head || w.ring.Tail() != tail || !slices.Equal(w.ring.Refs(), refs) {
		w.t.Fatalf("Lost and Next moved the ring's window, or changed a place")
	}
	for offset := span.From; offset < span.To; offset++ {
		x.lost = append(x.lost, offset)
	}
	if e == api.OK {
		x.read = append(x.read, moved)
	}
	x.at = at
}

// check holds that a reader was told of each offset ahead of its cursor just once, in order, and read just those that were published.
func (w *world) check(i int) {
	w.t.Helper()
	x := &w.readers[i]
	if !slices.IsSorted(x.read) || !slices.IsSorted(x.lost) {
		w.t.Fatalf("read %v and lost %v, not in order", x.read, x.lost)
	}
	all := append(slices.Clone(x.read), x.lost...)
	slices.Sort(all)
	if len(all) != x.at {
		w.t.Fatalf("read %v and lost %v ahead of %d", x.read, x.lost, x.at)
	}
	for offset, told := range all {
		if told != offset || !w.published[offset] {
			w.t.Fatalf("read %v and lost %v ahead of %d", x.read, x.lost, x.at)
		}
	}
}

// finish publishes all places, and has each reader go on till there is nothing yet: then each offset was read or lost by each.
func (w *world) finish() {
	w.t.Helper()
	for at := range w.published {
		w.publish(at)
	}
	for i := range w.readers {
		for range len(w.published) + 1 {
			w.goOn(i)
		}
		w.check(i)
		if w.readers[i].at != len(w.published) {
			w.t.Fatalf("a reader ends at %d of %d", w.readers[i].at, len(w.published))
		}
	}
}

// 7.2 to 7.4, P2: each history of six calls on rings of one to three places under both policies, among them those of two readers.
func TestHistories(t *testing.T) {
	acts := []func(w *world){
		func(w *world) { w.claim() },
		func(w *world) { w.publish(w.ring.Ready(0)) },     // the eldest one that is not
		func(w *world) { w.publish(w.ring.Tail() - 1) },   // the youngest one
		func(w *world) { w.ring.Trim(w.ring.Head() + 1) }, // if it is published
		func(w *world) { w.claim(); w.publish(w.ring.Tail() - 1) },
		func(w *world) { w.goOn(0) },
		func(w *world) { w.goOn(1) },
	}
	all := 1
	for range 6 {
		all *= len(acts)
	}
	for kind := range 6 {
		for history := range all { // its digits are its calls
			w := newWorld(t, kind/2+1, policies[kind%2], 2)
			rest := history
			for range 6 {
				acts[rest%len(acts)](w)
				rest /= len(acts)
			}
			w.check(0)
			w.check(1)
			w.finish()
			if t.Failed() {
				t.Fatalf("room %d, policy %d, history %d", kind/2+1, kind%2, history)
			}
		}
	}
}

// 7.2 to 7.4: long histories from a fixed rule, of two readers that go on often, and one that comes seldom and reads some places then.
func TestLongHistories(t *testing.T) {
	seed := uint32(7)
	below := func(n int) int {
		seed = seed*1664525 + 1013904223
		return int(seed>>8) % n
	}
	for _, room := range []int{1, 2, 3, 5, 16, api.MaxRing - 1, api.MaxRing} {
		for _, policy := range policies {
			w := newWorld(t, room, policy, 3)
			for range 4000 {
				switch below(8) {
				case 0, 1:
					w.claim()
				case 2, 3:
					w.publish(w.ring.Ready(0))
				case 4:
					w.publish(w.ring.Head() + below(room))
				case 5:
					w.ring.Trim(w.ring.Head() + 1 + below(2))
				case 6:
					w.goOn(0)
				case 7:
					w.goOn(1)
					for seldom := below(16); seldom > 12; seldom-- {
						w.goOn(2)
					}
				}
			}
			for i := range w.readers {
				w.check(i)
			}
			w.finish()
			for i, x := range w.readers {
				if len(x.read) < 40 || len(x.lost) < 10 {
					t.Errorf("room %d, policy %d: reader %d read %d and lost %d", room, policy, i, len(x.read), len(x.lost))
				}
			}
		}
	}
}

// 7.4: two readers at one place, of whom the slowest tells how much may go: then nobody loses anything.
func TestTrimToTheSlowest(t *testing.T) {
	for _, room := range []int{1, 2, 3, 16, api.MaxRing} {
		w := newWorld(t, room, api.Block, 3)
		for round := range 500 {
			w.claim()
			w.publish(w.ring.Ready(0))
			w.goOn(0)
			w.goOn(1 + round%2)
			w.ring.Trim(cursor.Slowest(w.readers[0].at, w.readers[1].at, w.readers[2].at))
		}
		w.finish()
		for i, x := range w.readers {
			if len(x.lost) != 0 || len(x.read) < 100 {
				t.Errorf("room %d: reader %d read %d and lost %v", room, i, len(x.read), x.lost)
			}
		}
	}
}
