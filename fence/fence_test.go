package fence_test

import (
	"fmt"
	"math"
	"slices"
	"testing"

	"postrider/api"
	"postrider/fence"
)

// The numbers that the document's limits, and the machine's, set apart.
var (
	starts = []int{0, 1, 2, 5, api.MaxRing, api.MaxItems, 1 << 20, api.MaxOffset - api.MaxRing, api.MaxOffset - 2, api.MaxOffset - 1, api.MaxOffset}
	below  = []int{math.MinInt, math.MinInt + 1, -api.MaxOffset - 1, -api.MaxOffset, -api.MaxItems, -2, -1}
	above  = []int{api.MaxOffset + 1, api.MaxOffset + 2, 2 * api.MaxOffset, math.MaxInt - 1, math.MaxInt}
)

// act is one call that changes a track, by its name and its numbers.
type act struct {
	call           string
	to, head, tail int
}

func deliver(head, tail int) act  { return act{"deliver", 0, head, tail} }
func commit(to int) act           { return act{"commit", to, 0, 0} }
func seek(to, head, tail int) act { return act{"seek", to, head, tail} }
func back() act                   { return act{call: "back"} }

// do is the program's answer to the call.
func do(track *fence.Track, c act) (int, api.Errno) {
	switch c.call {
	case "deliver":
		return track.Deliver(c.head, c.tail)
	case "commit":
		return 0, track.Commit(c.to)
	case "seek":
		return 0, track.Seek(c.to, c.head, c.tail)
	}
	track.Back()
	return 0, api.OK
}

func same(t *testing.T, what string, got, want any) {
	t.Helper()
	if g, w := fmt.Sprint(got), fmt.Sprint(want); g != w {
		t.Errorf("%s: %s, want %s", what, g, w)
	}
}

// answers are a call's results in a row, errors as numbers.
func answers(results ...any) []any {
	for i, r := range results {
		if e, ok := r.(api.Errno); ok {
			results[i] = int(e)
		}
	}
	return results
}

// spans are spans by their beginnings and ends.
func spans(offsets ...int) []api.Span {
	list := []api.Span{}
	for i := 0; i < len(offsets); i += 2 {
		list = append(list, api.Span{From: offsets[i], To: offsets[i+1]})
	}
	return list
}

// noWindows are heads and tails that are no window.
func noWindows() [][2]int {
	list := [][2]int{{1, 0}, {6, 5}, {api.MaxOffset, 0}, {api.MaxOffset, api.MaxOffset - 1}}
	for _, n := range below {
		list = append(list, [2]int{n, 5}, [2]int{n, n}, [2]int{0, n}, [2]int{n, api.MaxOffset}, [2]int{n, api.MaxOffset + 1})
	}
	for _, n := range above {
		list = append(list, [2]int{0, n}, [2]int{n, n}, [2]int{n, 5}, [2]int{api.MaxOffset, n}, [2]int{-1, n})
	}
	return list
}

// unmade are the tracks that no call made.
func unmade() map[string]*fence.Track {
	return map[string]*fence.Track{"nil": nil, "plain": {}, "new": new(fence.Track)}
}

// made is a track for which these calls were done.
func made(t *testing.T, from int, calls ...act) *fence.Track {
	t.Helper()
	track, e := fence.Make(from)
	if track == nil || e != api.OK {
		t.Fatalf("Make(%d): %v, %d, want a track", from, track, int(e))
	}
	done(t, track, calls...)
	return track
}

// done does calls that are not to be refused.
func done(t *testing.T, track *fence.Track, calls ...act) {
	t.Helper()
	for _, c := range calls {
		if _, e := do(track, c); e != api.OK {
			t.Fatalf("%v: %d", c, int(e))
		}
	}
}

// told is all that calls tell of a track; what each of its offsets is its ledger's spans tell.
func told(track *fence.Track) string {
	l := track.Ledger()
	text := fmt.Sprint(track.Next(), track.Committed(), l.From(), l.End(), l.Accepted(), l.Skipped())
	for _, head := range []int{0, track.Committed(), track.Next(), min(track.Next()+3, api.MaxOffset)} {
		for _, tail := range []int{head, track.Next(), api.MaxOffset} {
			at, e := track.Peek(head, tail)
			text += fmt.Sprint(" ", at, int(e))
		}
	}
	return text
}

// refused holds that a call is refused, and that this changes nothing.
func refused(t *testing.T, track *fence.Track, c act, want api.Errno) {
	t.Helper()
	was := told(track)
	at, e := do(track, c)
	same(t, fmt.Sprint(c), answers(at, e), answers(0, want))
	same(t, "what is told behind what was refused", told(track), was)
}

// state is what a track is to tell: where it began, its next offset, and its ledger's spans.
type state struct {
	from, next        int
	accepted, skipped []api.Span
}

// is holds what a track tells against the state, in which what is committed is where the last span ends.
func is(t *testing.T, what string, track *fence.Track, s state) {
	t.Helper()
	committed := s.from
	for _, span := range slices.Concat(s.accepted, s.skipped) {
		committed = max(committed, span.To)
	}
	l := track.Ledger()
	same(t, what+": Next, Committed", answers(track.Next(), track.Committed()), answers(s.next, committed))
	same(t, what+": the ledger", answers(l.From(), l.End(), l.Accepted(), l.Skipped()), answers(s.from, committed, s.accepted, s.skipped))
}

// Example is the chapter's.
func Example() {
	t, _ := fence.Make(0)
	fmt.Println(t.Deliver(0, 5))
	fmt.Println(t.Deliver(3, 5))
	fmt.Println(t.Ledger().Skipped())
	fmt.Println(t.Commit(4))
	fmt.Println(t.Commit(5))
	// Output:
	// 0 error 0
	// 3 error 0
	// [{0 3}]
	// error 0
	// error 61
}

// 18.1, 18.3: a track begins at each offset that may be: that is its next one, and all ahead of it counts as committed; its ledger has no spans.
func TestMake(t *testing.T) {
	for _, from := range starts {
		is(t, "a new track", made(t, from), state{from: from, next: from})
	}
}

// 18.1, P1: offsets below 0, and above MaxOffset, at which none begins.
func TestMakeRefused(t *testing.T) {
	for _, from := range slices.Concat(below, above) {
		if track, e := fence.Make(from); track != nil || e != api.ErrArg {
			t.Errorf("Make(%d): %v, %d, want %d", from, track, int(e), int(api.ErrArg))
		}
	}
}

// P1, rule 2: a track that no call made answers ErrNil ahead of all other errors, or zero values; no call makes it one.
func TestUnmade(t *testing.T) {
	for kind, track := range unmade() {
		for range 2 {
			for _, w := range append(noWindows(), [2]int{0, 0}, [2]int{0, 5}, [2]int{0, api.MaxOffset}) {
				at, e := track.Peek(w[0], w[1])
				same(t, fmt.Sprint(kind, ": Peek", w), answers(at, e), answers(0, api.ErrNil))
				at, e = track.Deliver(w[0], w[1])
				same(t, fmt.Sprint(kind, ": Deliver", w), answers(at, e), answers(0, api.ErrNil))
				for _, to := range []int{-1, 0, 1, 5, api.MaxOffset, api.MaxOffset + 1} {
					same(t, fmt.Sprint(kind, ": Seek", to, w), int(track.Seek(to, w[0], w[1])), int(api.ErrNil))
				}
			}
			for _, to := range slices.Concat(below, starts, above) {
				same(t, fmt.Sprint(kind, ": Commit", to), int(track.Commit(to)), int(api.ErrNil))
			}
			track.Back()
			same(t, kind+": Next, Committed", answers(track.Next(), track.Committed()), answers(0, 0))
			if l := track.Ledger(); l != nil {
				t.Errorf("%s: its ledger is %v, want nil", kind, l)
			}
		}
	}
}

// 18.1, P2: of windows of all sorts, that begin behind the next offset, at it and ahead of it, a new track is delivered the head, or the next one, if the tail is behind that; what is lost is skipped. Peek answers the same, and changes nothing.
func TestFirstDelivery(t *testing.T) {
	for _, from := range starts {
		for _, head := range slices.Concat(starts, []int{from - 2, from - 1, from + 1, from + 2, from + api.MaxRing}) {
			for _, tail := range slices.Concat(starts, []int{head, head + 1, head + 2, head + api.MaxRing, from - 1, from, from + 1}) {
				if head < 0 || head > tail || tail > api.MaxOffset {
					continue
				}
				track, at, what := made(t, from), max(from, head), fmt.Sprint("from ", from, ", window ", head, tail)
				if at >= tail {
					for range 2 {
						got, e := track.Peek(head, tail)
						same(t, what+": Peek", answers(got, e), answers(0, api.ErrNone))
						refused(t, track, deliver(head, tail), api.ErrNone)
					}
					is(t, what, track, state{from: from, next: from})
					continue
				}
				for range 2 {
					got, e := track.Peek(head, tail)
					same(t, what+": Peek", answers(got, e), answers(at, 0))
					is(t, what, track, state{from: from, next: from})
				}
				got, e := track.Deliver(head, tail)
				same(t, what+": Deliver", answers(got, e), answers(at, 0))
				lost := spans()
				if at > from {
					lost = spans(from, at)
				}
				is(t, what, track, state{from: from, next: at + 1, skipped: lost})
			}
		}
	}
}

// 18.1, P1, P2: what is no window: of a new track, and of one to which something was delivered, committed, or lost.
func TestNoWindow(t *testing.T) {
	for _, track := range []*fence.Track{
		made(t, 0), made(t, 4), made(t, api.MaxOffset), made(t, 0, deliver(0, 3), deliver(0, 3)),
		made(t, 0, deliver(0, 3), commit(1)), made(t, 0, deliver(2, 5)), made(t, 0, seek(api.MaxOffset, 0, api.MaxOffset)),
	} {
		for _, w := range noWindows() {
			at, e := track.Peek(w[0], w[1])
			same(t, fmt.Sprint("Peek", w), answers(at, e), answers(0, api.ErrArg))
			refused(t, track, deliver(w[0], w[1]), api.ErrArg) // also where the next offset is not ahead of that tail
			for _, to := range []int{math.MinInt, -1, 0, 2, 4, 5, api.MaxOffset, api.MaxOffset + 1, math.MaxInt} {
				refused(t, track, seek(to, w[0], w[1]), api.ErrArg) // also where it lies out of that window
			}
		}
	}
}

// 18.1, 18.4: each offset of a window is delivered, one above the other, up to its tail: of one place, of a ring's most places, and at MaxOffset; nothing is committed by that.
func TestDeliverAll(t *testing.T) {
	for _, n := range []int{0, 1, 2, api.MaxRing} {
		for _, head := range []int{0, 1, 7, 1 << 20, api.MaxOffset - n} {
			for _, from := range []int{0, head - 3, head - 1, head, head + 1, head + n - 1, head + n, head + n + 1} {
				if from < 0 || from > api.MaxOffset {
					continue
				}
				track := made(t, from)
				first, lost := max(from, head), spans()
				if head > from && n > 0 {
					lost = spans(from, head)
				}
				for at := first; at < head+n; at++ {
					peeked, e := track.Peek(head, head+n)
					got, f := track.Deliver(head, head+n)
					same(t, "Peek, Deliver", answers(peeked, e, got, f), answers(at, 0, at, 0))
					is(t, "behind it", track, state{from: from, next: at + 1, skipped: lost})
				}
				refused(t, track, deliver(head, head+n), api.ErrNone)
			}
		}
	}
}

// 18.1: the widest window there is: its head is delivered, then what is sought, up to its last place; behind its tail there is nothing.
func TestWidestWindow(t *testing.T) {
	const most = api.MaxOffset
	steps(t, "the widest window", made(t, 0), []step{
		{deliver(0, most), 0, api.OK, state{next: 1}},
		{deliver(0, most), 1, api.OK, state{next: 2}},
		{commit(1), 0, api.OK, state{next: 2, accepted: spans(0, 1)}},
		{seek(most-1, 0, most), 0, api.OK, state{next: most - 1, accepted: spans(0, 1), skipped: spans(1, most-1)}},
		{deliver(0, most), most - 1, api.OK, state{next: most, accepted: spans(0, 1), skipped: spans(1, most-1)}},
		{deliver(0, most), 0, api.ErrNone, state{next: most, accepted: spans(0, 1), skipped: spans(1, most-1)}},
		{commit(most), 0, api.OK, state{next: most, accepted: spans(0, 1, most-1, most), skipped: spans(1, most-1)}},
		{back(), 0, api.OK, state{next: most, accepted: spans(0, 1, most-1, most), skipped: spans(1, most-1)}},
		{seek(most, most, most), 0, api.OK, state{next: most, accepted: spans(0, 1, most-1, most), skipped: spans(1, most-1)}},
		{commit(most), 0, api.ErrWindow, state{next: most, accepted: spans(0, 1, most-1, most), skipped: spans(1, most-1)}},
		{deliver(most, most), 0, api.ErrNone, state{next: most, accepted: spans(0, 1, most-1, most), skipped: spans(1, most-1)}},
	})
}

// step is a call, what it is to answer, and what the track is to tell behind it.
type step struct {
	act
	at   int
	err  api.Errno
	then state
}

// steps does calls one behind the other. Peek answers ahead of each delivery what that answers, but ErrFull.
func steps(t *testing.T, what string, track *fence.Track, list []step) {
	t.Helper()
	from := track.Ledger().From()
	for _, s := range list {
		what += fmt.Sprint(" ", s.act)
		if s.call == "deliver" {
			at, e := track.Peek(s.head, s.tail)
			if s.err == api.ErrFull {
				same(t, what+": Peek", int(e), 0)
			} else {
				same(t, what+": Peek", answers(at, e), answers(s.at, s.err))
			}
		}
		at, e := do(track, s.act)
		same(t, what, answers(at, e), answers(s.at, s.err))
		s.then.from = from
		is(t, what, track, s.then)
	}
}

// 18.1: heads that moved on past what was delivered and was not committed yet: up to the next offset nothing is lost; past that all is skipped from what is committed on, delivered or not.
func TestHeadsMoveOn(t *testing.T) {
	begun := []act{deliver(0, 9), deliver(0, 9), deliver(0, 9), commit(1)}
	for head := range 4 {
		steps(t, "a head up to the next one", made(t, 0, begun...), []step{
			{deliver(head, 9), 3, api.OK, state{next: 4, accepted: spans(0, 1)}},
			{commit(2), 0, api.OK, state{next: 4, accepted: spans(0, 2)}}, // though the head moved past that
			{commit(4), 0, api.OK, state{next: 4, accepted: spans(0, 4)}},
		})
	}
	for head := 4; head < 9; head++ {
		steps(t, "a head past the next one", made(t, 0, begun...), []step{
			{deliver(head, head), 0, api.ErrNone, state{next: 3, accepted: spans(0, 1)}}, // nothing is skipped where nothing is delivered
			{deliver(head, 9), head, api.OK, state{next: head + 1, accepted: spans(0, 1), skipped: spans(1, head)}},
			{commit(2), 0, api.ErrWindow, state{next: head + 1, accepted: spans(0, 1), skipped: spans(1, head)}},
			{commit(3), 0, api.ErrWindow, state{next: head + 1, accepted: spans(0, 1), skipped: spans(1, head)}},
			{commit(head), 0, api.ErrWindow, state{next: head + 1, accepted: spans(0, 1), skipped: spans(1, head)}},
			{back(), 0, api.OK, state{next: head, accepted: spans(0, 1), skipped: spans(1, head)}},
			{deliver(head, 9), head, api.OK, state{next: head + 1, accepted: spans(0, 1), skipped: spans(1, head)}},
			{commit(head + 1), 0, api.OK, state{next: head + 1, accepted: spans(0, 1, head, head+1), skipped: spans(1, head)}},
		})
	}
}

// 18.1: what is lost twice, with nothing accepted between, is one span; with something accepted, two.
func TestLostAgain(t *testing.T) {
	steps(t, "lost again", made(t, 5), []step{
		{deliver(7, 9), 7, api.OK, state{next: 8, skipped: spans(5, 7)}},
		{deliver(10, 12), 10, api.OK, state{next: 11, skipped: spans(5, 10)}},
		{deliver(10, 12), 11, api.OK, state{next: 12, skipped: spans(5, 10)}},
		{deliver(12, 13), 12, api.OK, state{next: 13, skipped: spans(5, 10)}}, // the head is just the next one
		{commit(12), 0, api.OK, state{next: 13, accepted: spans(10, 12), skipped: spans(5, 10)}},
		{deliver(14, 20), 14, api.OK, state{next: 15, accepted: spans(10, 12), skipped: spans(5, 10, 12, 14)}},
		{commit(15), 0, api.OK, state{next: 15, accepted: spans(10, 12, 14, 15), skipped: spans(5, 10, 12, 14)}},
		{deliver(16, 17), 16, api.OK, state{next: 17, accepted: spans(10, 12, 14, 15), skipped: spans(5, 10, 12, 14, 15, 16)}},
	})
}

// 18.1: a window whose tail is not behind the next offset has nothing, wherever its head is; neither has one that the next offset is beyond.
func TestNothingThere(t *testing.T) {
	for _, from := range []int{0, 6, api.MaxOffset - 9} {
		track := made(t, from, deliver(from, from+5), deliver(from, from+5), deliver(from, from+5), commit(from+1))
		for tail := max(from-2, 0); tail <= from+3; tail++ {
			for _, head := range []int{0, from - 1, from, from + 1, from + 2, tail} {
				if head < 0 || head > tail {
					continue
				}
				at, e := track.Peek(head, tail)
				same(t, fmt.Sprint("Peek(", head, tail, ")"), answers(at, e), answers(0, api.ErrNone))
				refused(t, track, deliver(head, tail), api.ErrNone)
			}
		}
		is(t, "behind it", track, state{from: from, next: from + 3, accepted: spans(from, from+1)})
	}
}

// 18.2, P1, P2: of tracks that were delivered up to five offsets and committed some of them, an offset is committed if it is above what is committed, and not above the next one: just what is committed, one more, and so on.
func TestCommit(t *testing.T) {
	for _, from := range []int{0, 3, api.MaxOffset - 5} {
		for n := range 6 {
			for first := range n + 1 {
				begun := slices.Repeat([]act{deliver(from, from+n)}, n)
				accepted := spans()
				if first > 0 {
					begun, accepted = append(begun, commit(from+first)), spans(from, from+first)
				}
				for to := from - 1; to <= from+n+2; to++ {
					track := made(t, from, begun...)
					is(t, "ahead of it", track, state{from: from, next: from + n, accepted: accepted})
					switch {
					case to < 0 || to > api.MaxOffset:
						refused(t, track, commit(to), api.ErrArg)
					case to <= from+first || to > from+n:
						refused(t, track, commit(to), api.ErrWindow)
					default:
						same(t, fmt.Sprint("Commit(", to, ")"), int(track.Commit(to)), 0)
						is(t, "behind it", track, state{from: from, next: from + n, accepted: spans(from, to)})
						refused(t, track, commit(to), api.ErrWindow)
					}
				}
				track := made(t, from, begun...)
				for _, to := range slices.Concat(below, above) { // these are not above what is committed, or above the next one, as well
					refused(t, track, commit(to), api.ErrArg)
				}
			}
		}
	}
}

// 18.1, 18.5: offsets that were sought past, or that nobody was delivered, can't be committed.
func TestCommitOfTheUndelivered(t *testing.T) {
	refused(t, made(t, 0), commit(0), api.ErrWindow)
	refused(t, made(t, 0), commit(1), api.ErrWindow)
	refused(t, made(t, 7), commit(5), api.ErrWindow)
	track := made(t, 0, seek(4, 0, 9))
	for to := range 10 {
		refused(t, track, commit(to), api.ErrWindow)
	}
	done(t, track, deliver(0, 9))
	refused(t, track, commit(4), api.ErrWindow)
	refused(t, track, commit(6), api.ErrWindow)
	steps(t, "behind a seek", track, []step{{commit(5), 0, api.OK, state{next: 5, accepted: spans(4, 5), skipped: spans(0, 4)}}})
}

// 18.2, P1, P2: to all offsets of windows of all sorts, and about them, of a track with offsets that are committed, and others that were delivered: a seek below the next one skips nothing, one above it skips from what is committed on.
func TestSeek(t *testing.T) {
	for _, from := range []int{0, 4, api.MaxOffset - 9} {
		for next := from; next <= from+5; next++ {
			for committed := from; committed <= next; committed++ {
				begun, accepted := slices.Repeat([]act{deliver(from, next)}, next-from), spans()
				if committed > from {
					begun, accepted = append(begun, commit(committed)), spans(from, committed)
				}
				for head := from; head <= from+8; head++ {
					for tail := head; tail <= from+8; tail++ {
						for to := from; to <= from+9; to++ {
							track := made(t, from, begun...)
							what := fmt.Sprint("committed ", committed, ", next ", next, ", Seek", to, head, tail)
							if to < head || to > tail || to < committed {
								refused(t, track, seek(to, head, tail), api.ErrWindow)
								continue
							}
							then := state{from: from, next: to, accepted: accepted}
							if to > next {
								then.skipped = spans(committed, to)
							}
							same(t, what, int(track.Seek(to, head, tail)), 0)
							is(t, what, track, then)
						}
					}
				}
			}
		}
	}
}

// 18.2, P1, P2: seeks below 0, and above MaxOffset, which lie out of each window too; and out of windows that are far.
func TestSeekRefused(t *testing.T) {
	for _, from := range starts {
		track := made(t, from)
		if from < api.MaxOffset {
			done(t, track, deliver(0, api.MaxOffset))
		}
		for _, w := range [][2]int{{0, 0}, {0, from}, {from, from}, {from, api.MaxOffset}, {0, api.MaxOffset}, {api.MaxOffset, api.MaxOffset}} {
			for _, to := range slices.Concat(below, above) {
				refused(t, track, seek(to, w[0], w[1]), api.ErrArg)
			}
			for _, to := range starts {
				if to < w[0] || to > w[1] || to < from {
					refused(t, track, seek(to, w[0], w[1]), api.ErrWindow)
				}
			}
		}
	}
}

// 18.2: the seeks that the chapter sets apart, behind which is delivered what was sought; the head is not the next one then, and the tail is delivered only once it moved.
func TestDeliverBehindASeek(t *testing.T) {
	begun := []act{deliver(2, 9), deliver(2, 9), deliver(2, 9), deliver(2, 9), commit(4)} // from 2 on: 4 is committed, 6 the next one
	for _, c := range []struct {
		seek, deliver act
		at            int
		skipped       []api.Span
	}{
		{seek(4, 3, 9), deliver(3, 9), 4, nil},             // what is committed
		{seek(5, 3, 9), deliver(3, 9), 5, nil},             // below the next one
		{seek(6, 3, 9), deliver(3, 9), 6, nil},             // the next one
		{seek(7, 3, 9), deliver(3, 9), 7, spans(4, 7)},     // above it
		{seek(9, 3, 9), deliver(3, 10), 9, spans(4, 9)},    // the tail
		{seek(5, 5, 9), deliver(5, 9), 5, nil},             // the head, which is not committed yet
		{seek(8, 8, 9), deliver(8, 9), 8, spans(4, 8)},     // the head, ahead of which the next one is
		{seek(5, 2, 5), deliver(2, 9), 5, nil},             // a tail that is behind what is committed only
		{seek(5, 3, 9), deliver(7, 9), 7, spans(4, 7)},     // the head moved on past what was sought
		{seek(7, 3, 9), deliver(8, 9), 8, spans(4, 8)},     // and past what was skipped by that
		{seek(9, 9, 9), deliver(9, 1<<20), 9, spans(4, 9)}, // the tail of an empty window
		{seek(4, 0, 4), deliver(4, 5), 4, nil},             // what is committed, as the tail
		{seek(1<<20, 0, 1<<20), deliver(0, 1<<21), 1 << 20, spans(4, 1<<20)},
	} {
		track := made(t, 2, begun...)
		what := fmt.Sprint(c.seek, " ", c.deliver)
		done(t, track, c.seek)
		if c.seek.to == c.seek.tail {
			refused(t, track, deliver(c.seek.head, c.seek.tail), api.ErrNone)
		}
		at, e := track.Deliver(c.deliver.head, c.deliver.tail)
		same(t, what, answers(at, e), answers(c.at, 0))
		is(t, what, track, state{from: 2, next: c.at + 1, accepted: spans(2, 4), skipped: c.skipped})
	}
}

// 18.2, 18.4: a seek below lets offsets be delivered again, of which those up to the new next one may be committed, and no others till they are delivered again.
func TestCommitBehindASeek(t *testing.T) {
	steps(t, "sought below", made(t, 0, deliver(0, 9), deliver(0, 9), deliver(0, 9), deliver(0, 9)), []step{
		{seek(2, 0, 9), 0, api.OK, state{next: 2}},
		{commit(3), 0, api.ErrWindow, state{next: 2}},
		{commit(1), 0, api.OK, state{next: 2, accepted: spans(0, 1)}},
		{seek(0, 0, 9), 0, api.ErrWindow, state{next: 2, accepted: spans(0, 1)}},
		{deliver(0, 9), 2, api.OK, state{next: 3, accepted: spans(0, 1)}},
		{commit(3), 0, api.OK, state{next: 3, accepted: spans(0, 3)}},
		{seek(2, 0, 9), 0, api.ErrWindow, state{next: 3, accepted: spans(0, 3)}},
		{seek(3, 0, 9), 0, api.OK, state{next: 3, accepted: spans(0, 3)}},
		{seek(5, 0, 9), 0, api.OK, state{next: 5, accepted: spans(0, 3), skipped: spans(3, 5)}},
		{seek(4, 0, 9), 0, api.ErrWindow, state{next: 5, accepted: spans(0, 3), skipped: spans(3, 5)}},
		{seek(7, 0, 9), 0, api.OK, state{next: 7, accepted: spans(0, 3), skipped: spans(3, 7)}},
	})
}

// 18.1: Back where nothing was delivered since changes nothing; where something was, that is delivered again, and can't be committed before.
func TestBack(t *testing.T) {
	for _, from := range []int{0, 5, api.MaxOffset - 4, api.MaxOffset} {
		track := made(t, from)
		for range 3 {
			done(t, track, back())
			is(t, "nothing was delivered", track, state{from: from, next: from})
		}
	}
	steps(t, "back", made(t, 5), []step{
		{deliver(0, 9), 5, api.OK, state{next: 6}},
		{back(), 0, api.OK, state{next: 5}},
		{commit(6), 0, api.ErrWindow, state{next: 5}},
		{deliver(0, 9), 5, api.OK, state{next: 6}},
		{deliver(0, 9), 6, api.OK, state{next: 7}},
		{deliver(0, 9), 7, api.OK, state{next: 8}},
		{commit(6), 0, api.OK, state{next: 8, accepted: spans(5, 6)}},
		{back(), 0, api.OK, state{next: 6, accepted: spans(5, 6)}},
		{back(), 0, api.OK, state{next: 6, accepted: spans(5, 6)}},
		{commit(7), 0, api.ErrWindow, state{next: 6, accepted: spans(5, 6)}},
		{deliver(0, 9), 6, api.OK, state{next: 7, accepted: spans(5, 6)}},
		{commit(8), 0, api.ErrWindow, state{next: 7, accepted: spans(5, 6)}},
		{commit(7), 0, api.OK, state{next: 7, accepted: spans(5, 7)}},
		{back(), 0, api.OK, state{next: 7, accepted: spans(5, 7)}},
		{seek(8, 0, 9), 0, api.OK, state{next: 8, accepted: spans(5, 7), skipped: spans(7, 8)}},
		{back(), 0, api.OK, state{next: 8, accepted: spans(5, 7), skipped: spans(7, 8)}},
		{deliver(8, 9), 8, api.OK, state{next: 9, accepted: spans(5, 7), skipped: spans(7, 8)}},
		{deliver(8, 9), 0, api.ErrNone, state{next: 9, accepted: spans(5, 7), skipped: spans(7, 8)}},
		{back(), 0, api.OK, state{next: 8, accepted: spans(5, 7), skipped: spans(7, 8)}},
		{deliver(9, 12), 9, api.OK, state{next: 10, accepted: spans(5, 7), skipped: spans(7, 9)}}, // what was delivered before is lost now
		{back(), 0, api.OK, state{next: 9, accepted: spans(5, 7), skipped: spans(7, 9)}},
		{seek(9, 9, 12), 0, api.OK, state{next: 9, accepted: spans(5, 7), skipped: spans(7, 9)}},
		{seek(11, 9, 12), 0, api.OK, state{next: 11, accepted: spans(5, 7), skipped: spans(7, 11)}},
	})
}

// full are calls by which a track from an offset on gets n spans of one offset each, of both kinds in turn, the last one accepted or skipped.
func full(from, n int, accepted bool) []act {
	calls := []act{}
	for at := from; at < from+n; at++ {
		if (from+n-1-at)%2 == 0 == accepted {
			calls = append(calls, deliver(at, at+1), commit(at+1))
		} else {
			calls = append(calls, seek(at+1, at, at+1))
		}
	}
	return calls
}

// 18.1, 18.2, P2: with as many spans as there may be, the last one accepted: what is lost, or sought past, finds no room; what is committed goes on with it.
func TestFullOfAccepted(t *testing.T) {
	for _, from := range []int{0, 9, api.MaxOffset - api.MaxItems - 9} {
		end := from + api.MaxItems
		calls := full(from, api.MaxItems, true)
		for _, track := range []*fence.Track{made(t, from, calls...), made(t, from, append(calls, deliver(end, end+9), deliver(end, end+9))...)} {
			for head := track.Next() + 1; head < end+9; head++ {
				at, e := track.Peek(head, end+9)
				same(t, "Peek", answers(at, e), answers(head, 0))
				refused(t, track, deliver(head, end+9), api.ErrFull)
				refused(t, track, deliver(head, head), api.ErrNone) // ahead of ErrFull
				refused(t, track, seek(head, 0, end+9), api.ErrFull)
				refused(t, track, seek(head, head, head), api.ErrFull)
				refused(t, track, seek(head, head+1, end+9), api.ErrWindow) // ahead of ErrFull
				refused(t, track, seek(head, 0, head-1), api.ErrWindow)
				refused(t, track, seek(head, end+9, end+8), api.ErrArg)
				refused(t, track, deliver(head, head-1), api.ErrArg)
				refused(t, track, commit(head), api.ErrWindow)
			}
			refused(t, track, commit(end), api.ErrWindow)
			done(t, track, back(), seek(end, 0, end), deliver(end, end+9), deliver(0, end+9), seek(end+1, end, end+9), commit(end+1))
			refused(t, track, seek(end+2, 0, end+9), api.ErrFull)
			done(t, track, deliver(end+1, end+9), commit(end+2))
			same(t, "Next, Committed, spans", answers(track.Next(), track.Committed(), len(track.Ledger().Accepted()), len(track.Ledger().Skipped())), answers(end+2, end+2, api.MaxItems/2, api.MaxItems/2))
		}
	}
}

// 18.1, 18.2, P2: with as many spans as there may be, the last one skipped: what is committed finds no room; what is lost, or sought past, goes on with it.
func TestFullOfSkipped(t *testing.T) {
	for _, from := range []int{0, 9, api.MaxOffset - api.MaxItems - 9} {
		end := from + api.MaxItems
		track := made(t, from, full(from, api.MaxItems, false)...)
		done(t, track, deliver(end, end+9), deliver(end, end+9))
		for to := end + 1; to <= end+2; to++ {
			refused(t, track, commit(to), api.ErrFull)
		}
		for _, to := range []int{0, from, end - 1, end, end + 3, api.MaxOffset} {
			refused(t, track, commit(to), api.ErrWindow) // ahead of ErrFull
		}
		for _, to := range slices.Concat(below, above) {
			refused(t, track, commit(to), api.ErrArg)
		}
		done(t, track, deliver(end+4, end+9), seek(end+6, end+4, end+9), deliver(end+4, end+9))
		refused(t, track, commit(end+7), api.ErrFull)
		skipped := track.Ledger().Skipped()
		same(t, "the last skipped span", skipped[len(skipped)-1], api.Span{From: end - 1, To: end + 6})
		same(t, "Next, Committed, spans", answers(track.Next(), track.Committed(), len(track.Ledger().Accepted()), len(skipped)), answers(end+7, end+6, api.MaxItems/2, api.MaxItems/2))
	}
}

// 18.1, 18.2: the last span for which there is room, of either kind, by each call that makes one.
func TestNearlyFull(t *testing.T) {
	end := 3 + api.MaxItems - 1
	for _, last := range []act{deliver(end+2, end+5), seek(end+2, 0, end+5)} {
		track := made(t, 3, full(3, api.MaxItems-1, true)...)
		done(t, track, last)
		same(t, "spans", len(track.Ledger().Accepted())+len(track.Ledger().Skipped()), api.MaxItems)
		done(t, track, seek(end+3, end+2, end+5), deliver(end+2, end+5))
		refused(t, track, commit(end+4), api.ErrFull)
	}
	track := made(t, 3, full(3, api.MaxItems-1, false)...)
	done(t, track, deliver(end, end+5), commit(end+1), deliver(end, end+5), commit(end+2))
	same(t, "spans", len(track.Ledger().Accepted())+len(track.Ledger().Skipped()), api.MaxItems)
	refused(t, track, seek(end+3, 0, end+5), api.ErrFull)
	refused(t, track, deliver(end+4, end+5), api.ErrFull)
}

// 18.1 to 18.3: all that is told at each step of a track of which offsets are lost, committed, sought and delivered again.
func TestStepByStep(t *testing.T) {
	steps(t, "step by step", made(t, 10), []step{
		{deliver(10, 10), 0, api.ErrNone, state{next: 10}},
		{deliver(0, 14), 10, api.OK, state{next: 11}},
		{deliver(10, 14), 11, api.OK, state{next: 12}},
		{commit(11), 0, api.OK, state{next: 12, accepted: spans(10, 11)}},
		{deliver(13, 17), 13, api.OK, state{next: 14, accepted: spans(10, 11), skipped: spans(11, 13)}},
		{commit(12), 0, api.ErrWindow, state{next: 14, accepted: spans(10, 11), skipped: spans(11, 13)}},
		{deliver(13, 17), 14, api.OK, state{next: 15, accepted: spans(10, 11), skipped: spans(11, 13)}},
		{commit(15), 0, api.OK, state{next: 15, accepted: spans(10, 11, 13, 15), skipped: spans(11, 13)}},
		{deliver(13, 17), 15, api.OK, state{next: 16, accepted: spans(10, 11, 13, 15), skipped: spans(11, 13)}},
		{seek(17, 13, 17), 0, api.OK, state{next: 17, accepted: spans(10, 11, 13, 15), skipped: spans(11, 13, 15, 17)}},
		{deliver(13, 17), 0, api.ErrNone, state{next: 17, accepted: spans(10, 11, 13, 15), skipped: spans(11, 13, 15, 17)}},
		{deliver(15, 20), 17, api.OK, state{next: 18, accepted: spans(10, 11, 13, 15), skipped: spans(11, 13, 15, 17)}},
		{deliver(15, 20), 18, api.OK, state{next: 19, accepted: spans(10, 11, 13, 15), skipped: spans(11, 13, 15, 17)}},
		{back(), 0, api.OK, state{next: 17, accepted: spans(10, 11, 13, 15), skipped: spans(11, 13, 15, 17)}},
		{deliver(15, 20), 17, api.OK, state{next: 18, accepted: spans(10, 11, 13, 15), skipped: spans(11, 13, 15, 17)}},
		{commit(18), 0, api.OK, state{next: 18, accepted: spans(10, 11, 13, 15, 17, 18), skipped: spans(11, 13, 15, 17)}},
	})
}

// 18.3: a ledger that is handed out is a copy: what is done to it changes nothing in the track, nor in another copy, and what the track does then changes nothing in it.
func TestLedgerIsACopy(t *testing.T) {
	for _, calls := range [][]act{
		nil,
		{deliver(3, 9)},
		{deliver(3, 9), commit(4)},
		{deliver(5, 9)},
		{deliver(5, 9), commit(6), deliver(5, 9)},
		full(3, 7, true),
		full(3, api.MaxItems-1, false),
	} {
		track := made(t, 3, calls...)
		was, end := told(track), track.Committed()
		second := track.Ledger()
		elder := fmt.Sprint(second.From(), second.End(), second.Accepted(), second.Skipped())
		for range 2 {
			first := track.Ledger()
			same(t, "a copy that goes on", answers(first.Accept(end+4), first.End()), answers(0, end+4))
			same(t, "the track behind that", told(track), was)
			same(t, "a copy that goes back", answers(first.Back(3), first.End()), answers(0, 3))
			same(t, "the track behind that", told(track), was)
		}
		for _, list := range [][]api.Span{track.Ledger().Accepted(), track.Ledger().Skipped()} {
			for i := range list {
				list[i] = api.Span{From: 70, To: 71}
			}
		}
		same(t, "the track behind changes of lists", told(track), was)
		done(t, track, seek(track.Next()+1, 0, 999), deliver(0, 999))
		done(t, track, commit(track.Next()), deliver(0, 999), back())
		same(t, "the copy behind what its track did", fmt.Sprint(second.From(), second.End(), second.Accepted(), second.Skipped()), elder)
		l := track.Ledger()
		same(t, "From, End", answers(l.From(), l.End()), answers(3, track.Committed()))
	}
}

// 18.1: two tracks have nothing in common.
func TestTracksApart(t *testing.T) {
	track, other := made(t, 3, deliver(4, 9), commit(5), deliver(4, 9)), made(t, 3)
	was := told(track)
	done(t, other, deliver(3, 9), commit(4), seek(8, 3, 9), deliver(3, 9), back())
	same(t, "the first track", told(track), was)
}

// P2: asking changes nothing.
func TestAskingChangesNothing(t *testing.T) {
	for _, calls := range [][]act{nil, {deliver(3, 9)}, {deliver(5, 9), commit(6), deliver(5, 9)}, full(3, api.MaxItems, true)} {
		track := made(t, 3, calls...)
		l := track.Ledger()
		was := fmt.Sprint(track.Next(), track.Committed(), l.Accepted(), l.Skipped())
		for _, head := range slices.Concat(below, starts, above) {
			for _, tail := range slices.Concat(below, starts, above) {
				track.Peek(head, tail)
			}
		}
		track.Next()
		track.Committed()
		track.Ledger()
		l = track.Ledger()
		same(t, "what is told", fmt.Sprint(track.Next(), track.Committed(), l.Accepted(), l.Skipped()), was)
	}
}
