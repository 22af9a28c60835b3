package cursor_test

import (
	"fmt"
	"math"
	"slices"
	"testing"

	"postrider/api"
	"postrider/cursor"
)

// The windows that the document's limits, and the machine's, set apart; and what is none.
var (
	windows = [][2]int{
		{0, 0}, {0, 1}, {0, 2}, {1, 1}, {1, 2}, {5, 5}, {5, 6}, {5, 9},
		{0, api.MaxRing}, {1, api.MaxRing + 1},
		{0, api.MaxOffset - 1}, {0, api.MaxOffset}, {1, api.MaxOffset},
		{api.MaxOffset - 2, api.MaxOffset - 1}, {api.MaxOffset - 2, api.MaxOffset},
		{api.MaxOffset - 1, api.MaxOffset - 1}, {api.MaxOffset - 1, api.MaxOffset},
		{api.MaxOffset, api.MaxOffset},
	}
	noWindows = [][2]int{
		{-1, -1}, {-1, 0}, {-1, 5}, {-2, -1}, {-1, -2}, {0, -1}, {5, -1}, // below 0
		{math.MinInt, math.MinInt}, {math.MinInt, 0}, {math.MinInt, 9}, {0, math.MinInt}, {-api.MaxOffset, api.MaxOffset},
		{1, 0}, {2, 1}, {9, 5}, {6, 5}, {api.MaxOffset, 0}, {api.MaxOffset, api.MaxOffset - 1}, // a head above the tail
		{0, api.MaxOffset + 1}, {5, api.MaxOffset + 1}, {api.MaxOffset, api.MaxOffset + 1}, // above MaxOffset
		{api.MaxOffset + 1, api.MaxOffset + 1}, {api.MaxOffset + 1, api.MaxOffset}, {api.MaxOffset + 1, 0},
		{0, math.MaxInt}, {math.MaxInt, 0}, {math.MaxInt, math.MaxInt}, {math.MinInt, math.MaxInt}, {math.MaxInt, math.MinInt},
	}
	anywhere = []int{
		math.MinInt, math.MinInt + 1, -api.MaxOffset, -api.MaxRing, -2, -1, 0, 1, 2, 3, 4, 5, 6, 9, 10, api.MaxRing,
		api.MaxOffset - 1, api.MaxOffset, api.MaxOffset + 1, math.MaxInt - 1, math.MaxInt,
	}
)

func same(t *testing.T, what string, got, want any) {
	t.Helper()
	if g, w := fmt.Sprint(got), fmt.Sprint(want); g != w {
		t.Errorf("%s: %s, want %s", what, g, w)
	}
}

// answers are a call's results in a row, errors as numbers.
func answers(results ...any) []any {
	for i, r := range results {
		if e, ok := r.(api.Errno); ok {
			results[i] = int(e)
		}
	}
	return results
}

// moves holds what Move and Behind answer of a cursor against what they are to.
func moves(t *testing.T, at, head, tail, moved int, lost api.Span, behind int) {
	t.Helper()
	gotMoved, gotLost, e := cursor.Move(at, head, tail)
	same(t, fmt.Sprint("Move(", at, ", ", head, ", ", tail, ")"), answers(gotMoved, gotLost, e), answers(moved, lost, 0))
	gotBehind, e := cursor.Behind(at, head, tail)
	same(t, fmt.Sprint("Behind(", at, ", ", head, ", ", tail, ")"), answers(gotBehind, e), answers(behind, 0))
}

// noCursor holds that Move and Behind refuse a cursor, or a window.
func noCursor(t *testing.T, at, head, tail int) {
	t.Helper()
	moved, lost, e := cursor.Move(at, head, tail)
	behind, f := cursor.Behind(at, head, tail)
	same(t, fmt.Sprint("Move and Behind(", at, ", ", head, ", ", tail, ")"), answers(moved, lost, e, behind, f), answers(0, api.Span{}, api.ErrArg, 0, api.ErrArg))
}

// seeks holds what Seek answers against what it is to.
func seeks(t *testing.T, to, head, tail, want int, err api.Errno) {
	t.Helper()
	got, e := cursor.Seek(to, head, tail)
	same(t, fmt.Sprint("Seek(", to, ", ", head, ", ", tail, ")"), answers(got, e), answers(want, err))
}

func Example() {
	fmt.Println(cursor.Move(3, 5, 9))
	fmt.Println(cursor.Behind(3, 5, 9))
	// Output:
	// 5 {3 5} error 0
	// 4 error 0
}

// 7.1: an empty window, one that begins at 0, the greatest head and tail.
func TestCheck(t *testing.T) {
	for _, w := range windows {
		same(t, fmt.Sprint("Check", w), answers(cursor.Check(w[0], w[1])), answers(0))
	}
	for _, w := range noWindows {
		same(t, fmt.Sprint("Check", w), answers(cursor.Check(w[0], w[1])), answers(api.ErrArg))
	}
}

// 7.1, P1: of what is no window, every call answers ErrArg, whatever it is asked.
func TestNoWindow(t *testing.T) {
	for _, w := range noWindows {
		for _, at := range append(slices.Clone(anywhere), w[0], w[1], w[0]+1, w[1]-1) {
			noCursor(t, at, w[0], w[1])
			seeks(t, at, w[0], w[1], 0, api.ErrArg)
		}
	}
}

// 7.1: cursors at 0, ahead of the head by one and by many, at the head, in the window, at the tail.
func TestMoveAndBehind(t *testing.T) {
	greatest := api.MaxOffset
	for _, c := range []struct {
		at, head, tail, moved int
		lost                  api.Span
		behind                int
	}{
		{0, 0, 0, 0, api.Span{}, 0},
		{0, 0, 3, 0, api.Span{}, 3},
		{1, 0, 3, 1, api.Span{}, 2},
		{3, 0, 3, 3, api.Span{}, 0},
		{0, 1, 3, 1, api.Span{From: 0, To: 1}, 2},
		{0, 5, 9, 5, api.Span{From: 0, To: 5}, 4},
		{3, 5, 9, 5, api.Span{From: 3, To: 5}, 4},
		{4, 5, 9, 5, api.Span{From: 4, To: 5}, 4},
		{5, 5, 9, 5, api.Span{}, 4},
		{6, 5, 9, 6, api.Span{}, 3},
		{8, 5, 9, 8, api.Span{}, 1},
		{9, 5, 9, 9, api.Span{}, 0},
		{0, 7, 7, 7, api.Span{From: 0, To: 7}, 0},
		{6, 7, 7, 7, api.Span{From: 6, To: 7}, 0},
		{7, 7, 7, 7, api.Span{}, 0},
		{0, 0, greatest, 0, api.Span{}, greatest},
		{greatest, 0, greatest, greatest, api.Span{}, 0},
		{greatest - 1, 0, greatest, greatest - 1, api.Span{}, 1},
		{0, greatest - 1, greatest, greatest - 1, api.Span{From: 0, To: greatest - 1}, 1},
		{0, greatest, greatest, greatest, api.Span{From: 0, To: greatest}, 0},
		{greatest - 1, greatest, greatest, greatest, api.Span{From: greatest - 1, To: greatest}, 0},
		{greatest, greatest, greatest, greatest, api.Span{}, 0},
	} {
		moves(t, c.at, c.head, c.tail, c.moved, c.lost, c.behind)
	}
}

// 7.1: cursors below 0, and above the tail.
func TestNoCursor(t *testing.T) {
	for _, w := range windows {
		for _, at := range []int{math.MinInt, math.MinInt + 1, -api.MaxOffset, w[0] - api.MaxOffset - 1, -2, -1} {
			noCursor(t, at, w[0], w[1])
		}
		for _, at := range []int{w[1] + 1, w[1] + 2, w[1] + api.MaxRing, w[1] + api.MaxOffset, api.MaxOffset + 1, math.MaxInt - 1, math.MaxInt} {
			noCursor(t, at, w[0], w[1])
		}
	}
}

// 7.1: a place to go to that is the head, the tail, between them, and just not.
func TestSeek(t *testing.T) {
	for _, w := range windows {
		head, tail := w[0], w[1]
		for _, to := range []int{head, tail, (head + tail) / 2, min(head+1, tail), max(tail-1, head)} {
			seeks(t, to, head, tail, to, api.OK)
		}
		for _, to := range []int{math.MinInt, math.MinInt + 1, -api.MaxOffset, -1, head - 1, tail + 1, tail + 2, tail + api.MaxOffset, api.MaxOffset + 1, math.MaxInt} {
			seeks(t, to, head, tail, 0, api.ErrWindow)
		}
	}
	for to, want := range map[int]api.Errno{0: api.ErrWindow, 1: api.ErrWindow, 4: api.ErrWindow, 5: api.OK, 6: api.OK, 8: api.OK, 9: api.OK, 10: api.ErrWindow} {
		got, e := cursor.Seek(to, 5, 9)
		if e != want || e == api.OK && got != to {
			t.Errorf("Seek(%d, 5, 9): %d, %d, want %d", to, got, int(e), int(want))
		}
	}
}

// 7.1: ErrArg of the window comes ahead of ErrWindow, of a place that is in no such window either.
func TestSeekErrArgFirst(t *testing.T) {
	for _, c := range [][3]int{{10, 9, 5}, {4, 9, 5}, {7, 9, 5}, {-1, -1, 5}, {-2, -1, 5}, {6, -1, 5}, {-1, 0, api.MaxOffset + 1}, {api.MaxOffset + 1, 0, api.MaxOffset + 1}, {api.MaxOffset + 2, 0, api.MaxOffset + 1}} {
		seeks(t, c[0], c[1], c[2], 0, api.ErrArg)
	}
}

// 7.1, P2: no cursor, one, several, equal ones, and numbers that are none; the list stays as it is.
func TestSlowest(t *testing.T) {
	for _, c := range []struct {
		cursors []int
		want    int
	}{
		{nil, 0}, {[]int{}, 0},
		{[]int{0}, 0}, {[]int{7}, 7}, {[]int{api.MaxOffset}, api.MaxOffset}, {[]int{math.MaxInt}, math.MaxInt}, {[]int{math.MinInt}, math.MinInt},
		{[]int{3, 5}, 3}, {[]int{5, 3}, 3}, {[]int{9, 4, 6}, 4}, {[]int{4, 6, 9}, 4}, {[]int{9, 6, 4}, 4}, {[]int{6, 0, 4}, 0},
		{[]int{5, 5}, 5}, {[]int{5, 5, 5}, 5}, {[]int{8, 5, 9, 5}, 5}, {[]int{0, 0}, 0},
		{[]int{api.MaxOffset, api.MaxOffset - 1}, api.MaxOffset - 1}, {[]int{3, -1}, -1}, {[]int{math.MaxInt, math.MinInt, 0}, math.MinInt},
	} {
		was := slices.Clone(c.cursors)
		same(t, fmt.Sprint("Slowest", c.cursors), cursor.Slowest(c.cursors...), c.want)
		same(t, "the list behind it", c.cursors, was)
	}
	same(t, "Slowest()", cursor.Slowest(), 0)
}

// 7.1: of a list of any length, wherever the least one is.
func TestSlowestOfMany(t *testing.T) {
	for places := 1; places <= 40; places++ {
		for least := range places {
			cursors := make([]int, places)
			for i := range cursors {
				cursors[i] = 100 + (i*7)%5
			}
			cursors[least] = 99
			same(t, fmt.Sprint("Slowest", cursors), cursor.Slowest(cursors...), 99)
		}
	}
	many := make([]int, 1<<17)
	for i := range many {
		many[i] = len(many) - i
	}
	same(t, "Slowest of many", cursor.Slowest(many...), 1)
}

// 7.1, 7.3: of every small window and each offset, also where it ends at MaxOffset: offset by offset, as the words say it.
func TestSmallWindows(t *testing.T) {
	for _, first := range []int{0, 1000, api.MaxOffset - 6} {
		for head := first; head <= first+6; head++ {
			for tail := head; tail <= first+6; tail++ {
				for at := first; at <= first+6; at++ {
					if at > tail {
						noCursor(t, at, head, tail)
						seeks(t, at, head, tail, 0, api.ErrWindow)
						continue
					}
					moved, lost, behind := at, api.Span{}, 0
					for ; moved < head; moved++ {
						lost = api.Span{From: at, To: moved + 1}
					}
					for offset := moved; offset < tail; offset++ {
						behind++
					}
					moves(t, at, head, tail, moved, lost, behind)
					if at < head {
						seeks(t, at, head, tail, 0, api.ErrWindow)
					} else {
						seeks(t, at, head, tail, at, api.OK)
					}
				}
			}
		}
	}
}

// cursorsOf are cursors of a window, from 0 up to its tail.
func cursorsOf(head, tail int) []int {
	var list []int
	for _, at := range append(slices.Clone(anywhere), head-1, head, head+1, tail-1, tail) {
		if at >= 0 && at <= tail {
			list = append(list, at)
		}
	}
	return list
}

// 7.3: what was moved is in the window, or its tail, and stays, moved again; a place to go to stays, too.
func TestMovedStays(t *testing.T) {
	for _, w := range windows {
		head, tail := w[0], w[1]
		for _, at := range cursorsOf(head, tail) {
			moved, lost, e := cursor.Move(at, head, tail)
			if e != api.OK || moved < head || moved > tail || moved < at {
				t.Errorf("Move(%d, %d, %d): %d, %v, %d", at, head, tail, moved, lost, int(e))
			}
			if lost != (api.Span{}) && (lost.From != at || lost.To != moved || at >= moved) || lost == (api.Span{}) && at != moved {
				t.Errorf("Move(%d, %d, %d): to %d it lost %v", at, head, tail, moved, lost)
			}
			again, more, e := cursor.Move(moved, head, tail)
			same(t, "moved again", answers(again, more, e), answers(moved, api.Span{}, 0))
			seeks(t, moved, head, tail, moved, api.OK)
		}
	}
}

// 7.5: a move changes nothing, and a tail that is further by some is further by as many.
func TestFurther(t *testing.T) {
	for _, w := range windows {
		head, tail := w[0], w[1]
		for _, at := range cursorsOf(head, tail) {
			moved, _, _ := cursor.Move(at, head, tail)
			behind, e := cursor.Behind(at, head, tail)
			after, f := cursor.Behind(moved, head, tail)
			same(t, "behind, ahead of a move and behind it", answers(after, f), answers(behind, e))
			for _, more := range []int{1, 2, api.MaxRing} {
				if tail+more > api.MaxOffset {
					noCursor(t, at, head, tail+more)
					continue
				}
				further, e := cursor.Behind(at, head, tail+more)
				same(t, "behind a tail that is further", answers(further, e), answers(behind+more, 0))
			}
		}
	}
}

// 7.1, 7.3: whichever cursors a window has, the slowest one of them all is the one that is most behind.
func TestSlowestIsFurthestBehind(t *testing.T) {
	for _, w := range windows {
		head, tail := w[0], w[1]
		cursors := cursorsOf(head, tail)
		slowest, e := cursor.Behind(cursor.Slowest(cursors...), head, tail)
		for _, at := range cursors {
			behind, f := cursor.Behind(at, head, tail)
			if e != api.OK || f != api.OK || behind > slowest {
				t.Errorf("window %d, %d: %d is behind by %d, the slowest by %d", head, tail, at, behind, slowest)
			}
		}
	}
}
