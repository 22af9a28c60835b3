package group_test

import (
	"fmt"
	"math"
	"slices"
	"testing"

	"postrider/api"
	"postrider/group"
	"postrider/rebal"
)

const nobody = -1

// The numbers that are no sessions', and the offsets that may not be.
var (
	none  = []int{math.MinInt, math.MinInt + 1, -api.MaxSessions, -2, -1, api.MaxSessions, api.MaxSessions + 1, api.MaxOffset, math.MaxInt}
	below = []int{math.MinInt, -api.MaxOffset, -2, -1}
	above = []int{api.MaxOffset + 1, 2 * api.MaxOffset, math.MaxInt}
)

// The places that no group of these tests has.
var nowhere = []api.Place{{Topic: -1, Part: 0}, {Topic: 0, Part: -1}, {Topic: 90, Part: 9}, {Topic: math.MinInt, Part: math.MaxInt}}

func same(t *testing.T, what string, got, want any) {
	t.Helper()
	if g, w := fmt.Sprint(got), fmt.Sprint(want); g != w {
		t.Errorf("%s: %s, want %s", what, g, w)
	}
}

// answers are a call's results in a row, errors as numbers.
func answers(results ...any) []any {
	for i, r := range results {
		if e, ok := r.(api.Errno); ok {
			results[i] = int(e)
		}
	}
	return results
}

// sessions are the numbers of all sessions.
func sessions() []int {
	ids := []int{}
	for id := range api.MaxSessions {
		ids = append(ids, id)
	}
	return ids
}

// placed are the first n places of a list that neither rises nor falls.
func placed(n int) []api.Place {
	places := []api.Place{}
	for i := range n {
		at := i * 85 % 257 // 85 and 257 have no common divisor, so no two are equal
		places = append(places, api.Place{Topic: at / 8, Part: at % 8})
	}
	return places
}

// win is a window of the list's place of that number.
func win(n, head, tail int) group.Window {
	return group.Window{Place: placed(n + 1)[n], Head: head, Tail: tail}
}

// wins are windows of the list's first n places, all alike.
func wins(n, head, tail int) []group.Window {
	windows := []group.Window{}
	for _, p := range placed(n) {
		windows = append(windows, group.Window{Place: p, Head: head, Tail: tail})
	}
	return windows
}

// spans are spans by their beginnings and ends.
func spans(offsets ...int) []api.Span {
	list := []api.Span{}
	for i := 0; i < len(offsets); i += 2 {
		list = append(list, api.Span{From: offsets[i], To: offsets[i+1]})
	}
	return list
}

// noWindows are heads and tails that are no window.
func noWindows() [][2]int {
	list := [][2]int{{1, 0}, {6, 5}, {api.MaxOffset, 0}, {api.MaxOffset, api.MaxOffset - 1}}
	for _, n := range below {
		list = append(list, [2]int{n, 5}, [2]int{n, n}, [2]int{0, n}, [2]int{n, api.MaxOffset + 1})
	}
	for _, n := range above {
		list = append(list, [2]int{0, n}, [2]int{n, n}, [2]int{n, 5}, [2]int{-1, n})
	}
	return list
}

// unmade are the groups that no call made.
func unmade() map[string]*group.Group {
	return map[string]*group.Group{"nil": nil, "plain": {}, "new": new(group.Group), "with a table": {Table: rebal.Make()}}
}

// told is all that calls tell of a group: who is delivered what of windows without bounds tells of which place that was the last one.
func told(g *group.Group, others ...api.Place) string {
	owners, places := g.Owners(), slices.Concat(nowhere, others)
	windows := []group.Window{}
	for _, o := range owners {
		places = append(places, o.Place)
		windows = append(windows, group.Window{Place: o.Place, Head: 0, Tail: api.MaxOffset})
	}
	text := fmt.Sprint(g.Members(), g.Gen(), owners, g.Waits(), g.Behind(windows...))
	for id := -1; id <= api.MaxSessions; id++ {
		p, at, e := g.Pick(id, windows...)
		text += fmt.Sprint(" ", p, at, int(e))
	}
	for _, p := range places {
		committed, next, e := g.Marks(p)
		text += fmt.Sprint(" ", p, committed, next, int(e))
		if l := g.Ledger(p); l != nil {
			text += fmt.Sprint(l.From(), l.End(), l.Accepted(), l.Skipped())
		}
	}
	return text
}

// made is a new group that these joined, one behind the other.
func made(t *testing.T, ids ...int) *group.Group {
	t.Helper()
	g := group.Make()
	if g == nil {
		t.Fatal("Make(): nil, want a group")
	}
	for _, id := range ids {
		if _, e := g.Join(id); e != api.OK {
			t.Fatalf("Join(%d): %d", id, int(e))
		}
	}
	return g
}

// shared is a group of these members that have the list's first n places, evenly, all with windows from 0 to 9.
func shared(t *testing.T, n int, ids ...int) *group.Group {
	t.Helper()
	g := made(t, ids...)
	spreads(t, g, true, wins(n, 0, 9)...)
	return g
}

// The calls that change who has what, where they are not to be refused, and whether the group is settled then.

func spreads(t *testing.T, g *group.Group, settled bool, windows ...group.Window) {
	t.Helper()
	was := slices.Clone(windows)
	is, e := g.Spread(windows...)
	same(t, "Spread", answers(is, e), answers(settled, 0))
	if !slices.Equal(was, windows) {
		t.Errorf("Spread(%v) changed these to %v", was, windows)
	}
}

func joins(t *testing.T, g *group.Group, settled bool, id int) {
	t.Helper()
	is, e := g.Join(id)
	same(t, fmt.Sprint("Join(", id, ")"), answers(is, e), answers(settled, 0))
}

func leaves(t *testing.T, g *group.Group, settled bool, id int) {
	t.Helper()
	is, e := g.Leave(id)
	same(t, fmt.Sprint("Leave(", id, ")"), answers(is, e), answers(settled, 0))
}

func acks(t *testing.T, g *group.Group, settled bool, id int) {
	t.Helper()
	is, e := g.Ack(id)
	same(t, fmt.Sprint("Ack(", id, ")"), answers(is, e), answers(settled, 0))
}

// unchanged holds that a group tells what it told.
func unchanged(t *testing.T, what string, g *group.Group, was string) {
	t.Helper()
	now, at := told(g, placed(8)...), 0
	if now == was {
		return
	}
	for at < min(len(now), len(was)) && now[at] == was[at] {
		at++
	}
	t.Errorf("%s: it told .. %.100s, and tells .. %.100s", what, was[max(at-20, 0):], now[max(at-20, 0):])
}

// refused holds that a call answers an error, and that this changes nothing.
func refused(t *testing.T, what string, g *group.Group, want api.Errno, call func() api.Errno) {
	t.Helper()
	was := told(g, placed(8)...)
	same(t, what, int(call()), int(want))
	unchanged(t, what+" was refused", g, was)
}

// notSpread, notJoined, notLeft and notAcked hold that these are refused; their other result is false then.

func notSpread(t *testing.T, g *group.Group, want api.Errno, windows ...group.Window) {
	t.Helper()
	refused(t, fmt.Sprint("Spread of ", len(windows), " windows"), g, want, func() api.Errno {
		is, e := g.Spread(windows...)
		same(t, "Spread", is, false)
		return e
	})
}

func notJoined(t *testing.T, g *group.Group, want api.Errno, id int) {
	t.Helper()
	refused(t, fmt.Sprint("Join(", id, ")"), g, want, func() api.Errno {
		is, e := g.Join(id)
		same(t, "Join", is, false)
		return e
	})
}

func notLeft(t *testing.T, g *group.Group, want api.Errno, id int) {
	t.Helper()
	refused(t, fmt.Sprint("Leave(", id, ")"), g, want, func() api.Errno {
		is, e := g.Leave(id)
		same(t, "Leave", is, false)
		return e
	})
}

func notAcked(t *testing.T, g *group.Group, ids ...int) {
	t.Helper()
	for _, id := range ids {
		refused(t, fmt.Sprint("Ack(", id, ")"), g, api.ErrNone, func() api.Errno {
			is, e := g.Ack(id)
			same(t, "Ack", is, false)
			return e
		})
	}
}

// state is what a group is to tell of its members and its table: the list's first places are its own, in order.
type state struct {
	members, owners, waits []int
	gen                    int
}

func is(t *testing.T, what string, g *group.Group, s state) {
	t.Helper()
	owners := []api.Owner{}
	for i, p := range placed(len(s.owners)) {
		owners = append(owners, api.Owner{Place: p, Id: s.owners[i]})
	}
	same(t, what+": Members, Gen, Owners, Waits", answers(g.Members(), g.Gen(), g.Owners(), g.Waits()), answers(s.members, s.gen, owners, s.waits))
}

// marked holds what is committed of each of the list's first places, and its next offset.
func marked(t *testing.T, what string, g *group.Group, marks ...[2]int) {
	t.Helper()
	for i, p := range placed(len(marks)) {
		committed, next, e := g.Marks(p)
		same(t, fmt.Sprint(what, ": Marks of place ", i), answers(committed, next, e), answers(marks[i][0], marks[i][1], 0))
	}
}

// never holds that the group never had the places.
func never(t *testing.T, what string, g *group.Group, places ...api.Place) {
	t.Helper()
	for _, p := range places {
		committed, next, e := g.Marks(p)
		same(t, fmt.Sprint(what, ": Marks of ", p), answers(committed, next, e), answers(0, 0, api.ErrNone))
		if l := g.Ledger(p); l != nil {
			t.Errorf("%s: Ledger of %v: %v, want nil", what, p, l)
		}
	}
}

// listed holds what the ledger of the list's place of that number tells.
func listed(t *testing.T, what string, g *group.Group, n, from int, accepted, skipped []api.Span) {
	t.Helper()
	l := g.Ledger(win(n, 0, 0).Place)
	if l == nil {
		t.Fatalf("%s: Ledger of place %d: nil", what, n)
	}
	same(t, fmt.Sprint(what, ": Ledger of place ", n), answers(l.From(), l.Accepted(), l.Skipped()), answers(from, accepted, skipped))
}

// Example is the chapter's.
func Example() {
	g, w := group.Make(), group.Window{Place: api.Place{}, Head: 0, Tail: 3}
	fmt.Println(g.Join(1))
	fmt.Println(g.Spread(w))
	fmt.Println(g.Take(1, w))
	fmt.Println(g.Commit(1, 2, w.Place, 1))
	fmt.Println(g.Commit(1, 1, w.Place, 1))
	// Output:
	// true error 0
	// true error 0
	// {0 0} 0 error 0
	// error 0
	// error 180
}

// 19.1, 19.3: a new group has no members and no places, is at generation 0, and never had any place.
func TestMake(t *testing.T) {
	g := made(t)
	is(t, "new", g, state{})
	never(t, "new", g, slices.Concat(placed(3), nowhere, []api.Place{{}})...)
	same(t, "Behind", g.Behind(wins(3, 0, 9)...), []api.Far{})
	for _, id := range slices.Concat(none, sessions()) {
		p, at, e := g.Pick(id, wins(3, 0, 9)...)
		same(t, "Pick", answers(p, at, e), answers(api.Place{}, 0, api.ErrMember))
		notAcked(t, g, id)
	}
}

// P1, P2, rule 2: a group that no call made answers ErrNil ahead of all other errors, or zero values; no call makes it one.
func TestUnmade(t *testing.T) {
	lists := [][]group.Window{nil, wins(1, 0, 9), {win(0, 3, 1)}, {win(0, 0, 9), win(0, 0, 9)}, wins(257, 0, 9)}
	for kind, g := range unmade() {
		for _, id := range slices.Concat([]int{0, 1, 15}, none) {
			for _, windows := range lists {
				settled, e := g.Spread(windows...)
				same(t, kind+": Spread", answers(settled, e), answers(false, api.ErrNil))
				p, at, e := g.Pick(id, windows...)
				same(t, kind+": Pick", answers(p, at, e), answers(api.Place{}, 0, api.ErrNil))
				p, at, e = g.Take(id, windows...)
				same(t, kind+": Take", answers(p, at, e), answers(api.Place{}, 0, api.ErrNil))
				same(t, kind+": Behind", len(g.Behind(windows...)), 0)
			}
			for what, call := range map[string]func(int) (bool, api.Errno){"Join": g.Join, "Leave": g.Leave, "Ack": g.Ack} {
				settled, e := call(id)
				same(t, fmt.Sprint(kind, ": ", what, id), answers(settled, e), answers(false, api.ErrNil))
			}
			for _, gen := range []int{-1, 0, 1, math.MaxInt} {
				for _, to := range []int{-1, 0, 1, api.MaxOffset + 1} {
					same(t, kind+": Commit", int(g.Commit(id, gen, api.Place{}, to)), int(api.ErrNil))
					same(t, kind+": Seek", int(g.Seek(id, gen, group.Window{Tail: 9}, to)), int(api.ErrNil))
					same(t, kind+": Seek", int(g.Seek(id, gen, group.Window{Tail: -1}, to)), int(api.ErrNil))
				}
			}
		}
		same(t, kind+": Members, Gen, Owners, Waits", answers(len(g.Members()), g.Gen(), len(g.Owners()), len(g.Waits())), answers(0, 0, 0, 0))
		for _, p := range slices.Concat(placed(2), nowhere) {
			committed, next, e := g.Marks(p)
			same(t, kind+": Marks", answers(committed, next, e), answers(0, 0, api.ErrNil))
			if l := g.Ledger(p); l != nil {
				t.Errorf("%s: Ledger: %v, want nil", kind, l)
			}
		}
	}
}

// 19.1: the places of windows are the group's, in the windows' order, each at its head, wherever its tail is; without members nobody has them.
func TestSpreadWithoutMembers(t *testing.T) {
	g := made(t)
	spreads(t, g, true)
	is(t, "no windows", g, state{gen: 1})
	spreads(t, g, true, win(0, 7, 9))
	is(t, "one window", g, state{owners: []int{nobody}, gen: 2})
	marked(t, "one window", g, [2]int{7, 7})
	listed(t, "one window", g, 0, 7, nil, nil)
	never(t, "one window", g, placed(3)[1:]...)
	const most = api.MaxOffset
	spreads(t, g, true, win(0, 8, 9), win(1, 0, 0), win(2, 5, 5), win(3, 4, 5), win(4, most, most), win(5, 0, most), win(6, most-1, most))
	is(t, "seven windows", g, state{owners: slices.Repeat([]int{nobody}, 7), gen: 3})
	marked(t, "seven windows", g, [2]int{7, 7}, [2]int{}, [2]int{5, 5}, [2]int{4, 4}, [2]int{most, most}, [2]int{}, [2]int{most - 1, most - 1})
	spreads(t, g, true)
	is(t, "no windows again", g, state{gen: 4})
	marked(t, "no windows again", g, [2]int{7, 7}, [2]int{}, [2]int{5, 5})
}

// 19.1: one place, that all zeros tell of, too.
func TestSpreadOfTheFirstPlace(t *testing.T) {
	g := made(t, 0)
	spreads(t, g, true, group.Window{})
	same(t, "Owners", g.Owners(), []api.Owner{{}})
	marked(t, "an empty window", g, [2]int{})
	leaves(t, g, true, 0)
	same(t, "Owners", g.Owners(), []api.Owner{{Id: nobody}})
}

// 19.1, P1, P2: heads and tails that are no window, the first one's or another one's, of a group without places, of one that is settled, and of one that is changing.
func TestNoWindow(t *testing.T) {
	changing := shared(t, 3, 1)
	joins(t, changing, false, 2)
	for _, g := range []*group.Group{made(t), made(t, 1, 2), shared(t, 3, 1, 2), changing} {
		for _, w := range noWindows() {
			wrong := win(3, w[0], w[1])
			notSpread(t, g, api.ErrArg, wrong)
			notSpread(t, g, api.ErrArg, append(wins(3, 0, 9), wrong)...)
			notSpread(t, g, api.ErrArg, append([]group.Window{wrong}, wins(3, 0, 9)...)...)
		}
	}
}

// 19.1, P1, P2: places that may not be: numbers below 0, and the same place twice, with other offsets, too.
func TestNoPlaces(t *testing.T) {
	for _, g := range []*group.Group{made(t), made(t, 1, 2), shared(t, 2, 1, 2)} {
		for _, p := range nowhere {
			if p.Topic >= 0 && p.Part >= 0 {
				continue
			}
			for at := range 4 {
				windows := wins(4, 0, 9)
				windows[at].Place = p
				notSpread(t, g, api.ErrArg, windows...)
			}
		}
		for at := range 4 {
			notSpread(t, g, api.ErrArg, append(wins(4, 0, 9), win(at, 0, 9))...)
			notSpread(t, g, api.ErrArg, append(wins(4, 0, 9), win(at, 3, 5))...)
		}
	}
}

// 19.1, P1, P2: as many places as there may be, and one more: that no window is none comes first, then that there are too many, then that they may not be.
func TestTooManyPlaces(t *testing.T) {
	for _, g := range []*group.Group{made(t), shared(t, 2, 1, 2)} {
		notSpread(t, g, api.ErrLong, wins(257, 0, 9)...)
		notSpread(t, g, api.ErrLong, append(wins(256, 0, 9), win(0, 0, 9))...)
		notSpread(t, g, api.ErrLong, append(wins(256, 0, 9), group.Window{Place: nowhere[0]})...)
		notSpread(t, g, api.ErrArg, append(wins(257, 0, 9), win(0, 9, 8))...)
		notSpread(t, g, api.ErrArg, append(wins(256, 0, 9), group.Window{Place: nowhere[0], Head: 1})...)
		notSpread(t, g, api.ErrArg, append(wins(255, 0, 9), win(254, 0, 9))...)
		notSpread(t, g, api.ErrArg, append(wins(255, 0, 9), group.Window{Place: nowhere[0]})...)
	}
}

// 19.1, 19.2, 19.4: as many places as there may be, of eight members: each is delivered its own ones, in the table's order.
func TestMostPlaces(t *testing.T) {
	ids := []int{15, 0, 9, 3, 7, 12, 1, 4}
	g := made(t, ids...)
	windows := wins(256, 2, 5)
	spreads(t, g, true, windows...)
	rising := slices.Sorted(slices.Values(ids))
	owners := []int{}
	for _, id := range rising {
		owners = append(owners, slices.Repeat([]int{id}, 32)...) // each of them fills its quota ahead of the next one
	}
	is(t, "spread", g, state{members: rising, owners: owners, gen: 9})
	want := []api.Far{}
	for _, id := range rising {
		want = append(want, api.Far{Id: id, Behind: 32 * 3})
	}
	same(t, "Behind", g.Behind(windows...), want)
	for round := range 3 {
		for _, id := range ids {
			for n := range 32 {
				at := slices.Index(rising, id)*32 + n
				p, offset, e := g.Take(id, windows...)
				same(t, "Take", answers(p, offset, e), answers(windows[at].Place, 2+round, 0))
			}
		}
	}
	for i, id := range rising {
		_, _, e := g.Take(id, windows...)
		same(t, "Take of nothing", int(e), int(api.ErrNone))
		want[i].Behind = 0
	}
	same(t, "Behind", g.Behind(windows...), want)
	for _, id := range rising[1:] {
		leaves(t, g, true, id)
	}
	is(t, "all but one left", g, state{members: rising[:1], owners: slices.Repeat(rising[:1], 256), gen: 16})
	joins(t, g, false, 15)
	acks(t, g, true, 0)
	is(t, "one joined again", g, state{members: []int{0, 15}, owners: slices.Concat(slices.Repeat([]int{0}, 128), slices.Repeat([]int{15}, 128)), gen: 17})
}

// 19.1: places of a later Spread: those that the group had before go on where they were, wherever their heads are; those that it has anew begin at their heads; those that it has no more keep what is committed, and go on there when they come again.
func TestSpreadAgain(t *testing.T) {
	g := shared(t, 3, 1)
	for at := range 3 {
		for n := range 3 {
			takes(t, g, 1, n, at, wins(3, 0, 9)...)
		}
	}
	for n := range 3 {
		same(t, "Commit", int(g.Commit(1, 2, win(n, 0, 0).Place, n+1)), 0)
	}
	marked(t, "begun", g, [2]int{1, 3}, [2]int{2, 3}, [2]int{3, 3})
	spreads(t, g, true, win(0, 0, 9), win(1, 8, 9), win(2, 0, 2), win(3, 6, 9)) // heads ahead of the next offset, tails behind it
	marked(t, "one more", g, [2]int{1, 3}, [2]int{2, 3}, [2]int{3, 3}, [2]int{6, 6})
	is(t, "one more", g, state{members: []int{1}, owners: []int{1, 1, 1, 1}, gen: 3})
	spreads(t, g, true, win(0, 0, 9))
	is(t, "three fewer", g, state{members: []int{1}, owners: []int{1}, gen: 4})
	marked(t, "three fewer", g, [2]int{1, 3}, [2]int{2, 2}, [2]int{3, 3}, [2]int{6, 6})
	listed(t, "three fewer", g, 1, 0, spans(0, 2), nil)
	listed(t, "three fewer", g, 3, 6, nil, nil)
	spreads(t, g, true, win(0, 5, 9), win(1, 0, 9), win(2, 7, 9), win(3, 0, 9), win(4, 1, 1))
	marked(t, "all again", g, [2]int{1, 3}, [2]int{2, 2}, [2]int{3, 3}, [2]int{6, 6}, [2]int{1, 1})
	is(t, "all again", g, state{members: []int{1}, owners: []int{1, 1, 1, 1, 1}, gen: 5})
}

// 19.1: places whose order changes stay with who has them, and where they are.
func TestSpreadInAnotherOrder(t *testing.T) {
	g := shared(t, 4, 1, 2)
	for _, id := range []int{1, 1, 1, 2} {
		g.Take(id, wins(4, 0, 9)...)
	}
	windows := wins(4, 0, 9)
	slices.Reverse(windows)
	spreads(t, g, true, windows...)
	owners := []api.Owner{}
	for i, id := range []int{2, 2, 1, 1} {
		owners = append(owners, api.Owner{Place: windows[i].Place, Id: id})
	}
	same(t, "Owners", answers(g.Owners(), g.Gen()), answers(owners, 4))
	marked(t, "turned round", g, [2]int{0, 2}, [2]int{0, 1}, [2]int{0, 1}, [2]int{})
}

// 19.1, 19.3, P1, P2: as many members as there may be, one more, numbers that may not be, joining twice, leaving when one did not join: the errors of 15, in their order.
func TestMembers(t *testing.T) {
	g := shared(t, 3)
	for _, id := range none {
		notJoined(t, g, api.ErrArg, id)
		notLeft(t, g, api.ErrArg, id)
	}
	for _, id := range sessions() {
		notLeft(t, g, api.ErrMember, id)
	}
	ids := []int{15, 0, 9, 3, 7, 12, 1, 4}
	for n, id := range ids {
		_, e := g.Join(id)
		same(t, fmt.Sprint("Join(", id, ")"), int(e), 0)
		same(t, "Members", g.Members(), slices.Sorted(slices.Values(ids[:n+1])))
		for _, other := range ids[:n+1] {
			notJoined(t, g, api.ErrSame, other)
		}
		for _, other := range ids[n+1:] {
			notLeft(t, g, api.ErrMember, other)
		}
	}
	for _, id := range sessions() {
		if slices.Contains(ids, id) {
			notJoined(t, g, api.ErrSame, id)
		} else {
			notJoined(t, g, api.ErrFull, id)
		}
	}
	for _, id := range none {
		notJoined(t, g, api.ErrArg, id)
		notLeft(t, g, api.ErrArg, id)
	}
	for n, id := range ids {
		_, e := g.Leave(id)
		same(t, fmt.Sprint("Leave(", id, ")"), int(e), 0)
		same(t, "Members", g.Members(), slices.Sorted(slices.Values(ids[n+1:])))
		notLeft(t, g, api.ErrMember, id)
	}
	joins(t, g, true, 2)
	is(t, "in the end", g, state{members: []int{2}, owners: []int{2, 2, 2}, gen: g.Gen()})
}

// 19.1, 19.3: all is told ahead of each step and behind it: each Spread, Join and Leave begins anew, and tells whether it is settled.
func TestStepByStep(t *testing.T) {
	g := made(t)
	is(t, "ahead", g, state{})
	joins(t, g, true, 5)
	is(t, "Join(5)", g, state{members: []int{5}, gen: 1})
	spreads(t, g, true, wins(4, 0, 9)...)
	is(t, "Spread", g, state{members: []int{5}, owners: []int{5, 5, 5, 5}, gen: 2})
	joins(t, g, false, 2)
	is(t, "Join(2)", g, state{members: []int{2, 5}, owners: []int{5, 5, 5, 5}, waits: []int{5}, gen: 2})
	notAcked(t, g, 2, 0, 15, -1, 16)
	joins(t, g, false, 8)
	is(t, "Join(8)", g, state{members: []int{2, 5, 8}, owners: []int{5, 5, 5, 5}, waits: []int{5}, gen: 2})
	acks(t, g, true, 5) // it keeps two of four, as it had the most
	is(t, "Ack(5)", g, state{members: []int{2, 5, 8}, owners: []int{5, 5, 2, 8}, gen: 3})
	notAcked(t, g, 5, 2, 8)
	spreads(t, g, true, wins(6, 0, 9)...)
	is(t, "two more", g, state{members: []int{2, 5, 8}, owners: []int{5, 5, 2, 8, 2, 8}, gen: 4})
	spreads(t, g, false, wins(2, 0, 9)...)
	is(t, "four fewer", g, state{members: []int{2, 5, 8}, owners: []int{5, 5}, waits: []int{5}, gen: 4})
	leaves(t, g, true, 5) // who is no member need not acknowledge
	is(t, "Leave(5)", g, state{members: []int{2, 8}, owners: []int{2, 8}, gen: 5})
	leaves(t, g, true, 2)
	is(t, "Leave(2)", g, state{members: []int{8}, owners: []int{8, 8}, gen: 6})
	leaves(t, g, true, 8)
	is(t, "Leave(8)", g, state{owners: []int{nobody, nobody}, gen: 7})
	spreads(t, g, true)
	is(t, "no places", g, state{gen: 8})
}

// 19.1, 19.3: several must acknowledge: it is settled behind the last one, in whichever order.
func TestSeveralAcknowledge(t *testing.T) {
	for _, order := range [][]int{{1, 2}, {2, 1}} {
		g := shared(t, 6, 1, 2)
		joins(t, g, false, 3)
		is(t, "Join(3)", g, state{members: []int{1, 2, 3}, owners: []int{1, 1, 1, 2, 2, 2}, waits: []int{1, 2}, gen: 3})
		notAcked(t, g, 3, 0)
		acks(t, g, false, order[0])
		owners := []int{1, 1, nobody, 2, 2, 2}
		if order[0] == 2 {
			owners = []int{1, 1, 1, 2, 2, nobody}
		}
		is(t, "one did", g, state{members: []int{1, 2, 3}, owners: owners, waits: order[1:], gen: 3})
		notAcked(t, g, order[0], 3)
		acks(t, g, true, order[1])
		is(t, "both did", g, state{members: []int{1, 2, 3}, owners: []int{1, 1, 3, 2, 2, 3}, gen: 4})
		notAcked(t, g, 1, 2, 3)
	}
}

// 19.1: a member that joins or leaves, or places that come, while somebody must acknowledge, begin anew from the owners as they are.
func TestBegunAnewWhileChanging(t *testing.T) {
	g := shared(t, 2, 1)
	joins(t, g, false, 2)
	leaves(t, g, true, 2)
	is(t, "it left again", g, state{members: []int{1}, owners: []int{1, 1}, gen: 3})
	joins(t, g, false, 2)
	spreads(t, g, true, wins(4, 0, 9)...)
	is(t, "as many places more", g, state{members: []int{1, 2}, owners: []int{1, 1, 2, 2}, gen: 4})
	joins(t, g, false, 3)
	is(t, "a third one", g, state{members: []int{1, 2, 3}, owners: []int{1, 1, 2, 2}, waits: []int{2}, gen: 4})
	spreads(t, g, false, wins(2, 0, 9)...)
	is(t, "one that has none any more", g, state{members: []int{1, 2, 3}, owners: []int{1, 1}, waits: []int{1}, gen: 4})
	acks(t, g, true, 1)
	is(t, "one that gets none", g, state{members: []int{1, 2, 3}, owners: []int{1, 2}, gen: 5})
}

// Rules 4, 7: what is handed in is not changed, and not kept; what is handed out is the caller's own.
func TestTheCallersOwn(t *testing.T) {
	g := shared(t, 3, 1)
	joins(t, g, false, 2)
	windows := wins(3, 0, 9)
	spreads(t, g, false, windows...)
	was := told(g, placed(8)...)
	for i := range windows {
		windows[i] = win(9, 3, 4)
	}
	unchanged(t, "behind what was handed in is another one", g, was)
	windows = append(wins(3, 2, 9), win(7, 0, 9), win(0, 0, 9), win(1, 5, 2))
	kept := slices.Clone(windows)
	g.Pick(1, windows...)
	g.Behind(windows...)
	g.Take(2, windows...)
	if !slices.Equal(windows, kept) {
		t.Errorf("%v became %v", kept, windows)
	}
	for range 2 {
		g.Owners()[0].Id = 9
		g.Members()[0] = 9
		g.Waits()[0] = 9
		g.Behind(windows...)[0] = api.Far{Id: 9, Behind: 9}
		unchanged(t, "behind what was handed out is another one", g, was)
	}
	p := placed(1)[0]
	for range 2 {
		l := g.Ledger(p)
		l.Skip(5)
		l.Accept(7)
		unchanged(t, "behind another ledger", g, was)
	}
	before := g.Ledger(p)
	takes(t, g, 1, 0, 0, wins(3, 0, 9)...)
	g.Commit(1, g.Gen(), p, 1)
	same(t, "a ledger that was handed out ahead of a commit", before.End(), 0)
	same(t, "behind it", g.Ledger(p).End(), 1)
}
