package group_test

import (
	"fmt"
	"slices"
	"testing"

	"postrider/api"
	"postrider/group"
)

// picks holds that one would be delivered that offset of the list's place of that number, and that to pick changes nothing.
func picks(t *testing.T, g *group.Group, id, n, at int, windows ...group.Window) {
	t.Helper()
	was := told(g, placed(8)...)
	for range 2 {
		p, offset, e := g.Pick(id, windows...)
		same(t, fmt.Sprint("Pick(", id, ")"), answers(p, offset, e), answers(win(n, 0, 0).Place, at, 0))
	}
	unchanged(t, "behind a pick", g, was)
}

// takes holds that one would be delivered that offset of the list's place of that number, and is.
func takes(t *testing.T, g *group.Group, id, n, at int, windows ...group.Window) {
	t.Helper()
	picks(t, g, id, n, at, windows...)
	p, offset, e := g.Take(id, windows...)
	same(t, fmt.Sprint("Take(", id, ")"), answers(p, offset, e), answers(win(n, 0, 0).Place, at, 0))
	_, next, _ := g.Marks(p)
	same(t, "the next one behind it", next, at+1)
}

// notTaken holds that nothing is picked, and nothing delivered, and that neither changes anything.
func notTaken(t *testing.T, g *group.Group, want api.Errno, id int, windows ...group.Window) {
	t.Helper()
	for what, call := range map[string]func(int, ...group.Window) (api.Place, int, api.Errno){"Pick": g.Pick, "Take": g.Take} {
		refused(t, fmt.Sprint(what, "(", id, ")"), g, want, func() api.Errno {
			p, at, e := call(id, windows...)
			same(t, what, answers(p, at), answers(api.Place{}, 0))
			return e
		})
	}
}

// commits holds that one may commit the list's place of that number up to there.
func commits(t *testing.T, g *group.Group, id, n, to int) {
	t.Helper()
	same(t, fmt.Sprint("Commit(", id, ", place ", n, ", ", to, ")"), int(g.Commit(id, g.Gen(), win(n, 0, 0).Place, to)), 0)
}

// seeks holds that one may seek to there in the window.
func seeks(t *testing.T, g *group.Group, id int, w group.Window, to int) {
	t.Helper()
	same(t, fmt.Sprint("Seek(", id, ", ", w, to, ")"), int(g.Seek(id, g.Gen(), w, to)), 0)
}

// 19.2, P1, P2: no member, also no session, and one that left, is delivered nothing, whatever the windows are.
func TestTakeByNoMember(t *testing.T) {
	left := shared(t, 3, 1, 5)
	leaves(t, left, true, 5)
	for _, g := range []*group.Group{made(t), shared(t, 3), shared(t, 3, 1, 2), left} {
		for _, id := range slices.Concat(none, sessions()) {
			if !slices.Contains(g.Members(), id) {
				notTaken(t, g, api.ErrMember, id, wins(3, 0, 9)...)
				notTaken(t, g, api.ErrMember, id)
				notTaken(t, g, api.ErrMember, id, win(0, 3, 2))
			}
		}
	}
}

// 19.2, P1, P2: a member is delivered nothing where no window is told, none of its own places, none with anything in it, and none that is one.
func TestNothingToTake(t *testing.T) {
	g := shared(t, 4, 1, 2)
	notTaken(t, g, api.ErrNone, 1)
	notTaken(t, g, api.ErrNone, 1, win(2, 0, 9), win(3, 0, 9))
	notTaken(t, g, api.ErrNone, 2, win(0, 0, 9), win(1, 0, 9))
	notTaken(t, g, api.ErrNone, 1, win(4, 0, 9), win(9, 0, 9), group.Window{Place: nowhere[0], Tail: 9})
	notTaken(t, g, api.ErrNone, 1, win(0, 0, 0), win(1, 7, 7))
	for _, w := range noWindows() {
		notTaken(t, g, api.ErrNone, 1, win(0, w[0], w[1]))
		notTaken(t, g, api.ErrNone, 1, win(0, w[0], w[1]), win(1, w[0], w[1]), win(2, 0, 9))
	}
	notTaken(t, made(t, 1), api.ErrNone, 1, wins(3, 0, 9)...) // it has no places
	notTaken(t, shared(t, 2, 1, 2, 3), api.ErrNone, 3, wins(3, 0, 9)...)
	takes(t, g, 1, 0, 0, wins(4, 0, 1)...)
	takes(t, g, 1, 1, 0, wins(4, 0, 1)...)
	notTaken(t, g, api.ErrNone, 1, wins(4, 0, 1)...)
	takes(t, g, 2, 2, 0, wins(4, 0, 1)...)
}

// 19.2, 19.4: a member is delivered its own places, round, in the table's order, whatever order the windows have; each has its own round.
func TestRound(t *testing.T) {
	falling := wins(5, 0, 9)
	slices.Reverse(falling)
	for _, windows := range [][]group.Window{wins(5, 0, 9), falling} {
		g := shared(t, 5, 1, 2) // 1 has three places, 2 has two
		for at := range 3 {
			takes(t, g, 1, 0, at, windows...)
			takes(t, g, 2, 3, at, windows...)
			takes(t, g, 1, 1, at, windows...)
			takes(t, g, 1, 2, at, windows...)
			takes(t, g, 2, 4, at, windows...)
		}
		marked(t, "behind three rounds", g, [2]int{0, 3}, [2]int{0, 3}, [2]int{0, 3}, [2]int{0, 3}, [2]int{0, 3})
	}
}

// 19.2: of all sets of five places that have something, behind each that was the last one: the first of them behind that, round; the last one itself if no other one has anything.
func TestRoundOfSets(t *testing.T) {
	for last := range 5 {
		for set := range 1 << 5 {
			g := shared(t, 5, 3)
			takes(t, g, 3, last, 0, win(last, 0, 9))
			windows, want := []group.Window{}, -1
			for n := range 5 {
				if set&(1<<n) != 0 {
					windows = append(windows, win(n, 5, 9))
				} else if set%3 > 0 { // else no window tells of it
					windows = append(windows, win(n, 5, 5))
				}
			}
			for step := 5; step >= 1; step-- {
				if n := (last + step) % 5; set&(1<<n) != 0 {
					want = n
				}
			}
			if want < 0 {
				notTaken(t, g, api.ErrNone, 3, windows...)
				picks(t, g, 3, (last+1)%5, 0, wins(5, 0, 9)...)
				continue
			}
			takes(t, g, 3, want, 5, windows...)
			picks(t, g, 3, (want+1)%5, 7, wins(5, 7, 9)...)
		}
	}
}

// 19.2: what is picked, refused, committed or sought is no delivery: one goes on behind the place of which it was delivered something last.
func TestLastIsWhatWasDelivered(t *testing.T) {
	g := shared(t, 4, 1)
	takes(t, g, 1, 1, 0, win(1, 0, 9))
	picks(t, g, 1, 3, 0, win(3, 0, 9))
	notTaken(t, g, api.ErrNone, 1, win(0, 0, 0))
	commits(t, g, 1, 1, 1)
	seeks(t, g, 1, win(3, 0, 9), 4)
	seeks(t, g, 1, win(0, 0, 9), 2)
	takes(t, g, 1, 2, 0, wins(4, 0, 9)...)
	takes(t, g, 1, 3, 4, wins(4, 0, 9)...)
	takes(t, g, 1, 0, 2, wins(4, 0, 9)...)
	takes(t, g, 1, 1, 1, wins(4, 0, 9)...)
}

// 19.2: the last place counts where the table has it now, whoever has it; if that is none of the table's any more, it is from the first on, till it comes again.
func TestLastPlaceMoves(t *testing.T) {
	g := shared(t, 4, 1)
	takes(t, g, 1, 1, 0, win(1, 0, 9))
	windows := []group.Window{win(3, 0, 9), win(1, 0, 9), win(0, 0, 9), win(2, 0, 9)}
	spreads(t, g, true, windows...)
	picks(t, g, 1, 0, 0, windows...)
	spreads(t, g, true, win(3, 0, 9), win(0, 0, 9), win(2, 0, 9), win(1, 0, 9))
	picks(t, g, 1, 3, 0, windows...) // it stands last now
	spreads(t, g, true, win(2, 0, 9), win(0, 0, 9), win(3, 0, 9))
	picks(t, g, 1, 2, 0, windows...)
	spreads(t, g, true)
	notTaken(t, g, api.ErrNone, 1, windows...)
	spreads(t, g, true, wins(4, 0, 9)...)
	takes(t, g, 1, 2, 0, windows...)
	takes(t, g, 1, 3, 0, windows...)
	spreads(t, g, true, win(4, 0, 9), win(1, 0, 9), win(0, 0, 9), win(2, 0, 9))
	takes(t, g, 1, 4, 0, wins(5, 0, 9)...)
}

// 19.2: a last place that is another one's by now is one of the table's still; so is that of a member that left and joined again.
func TestLastPlaceOfAnother(t *testing.T) {
	g := shared(t, 4, 1)
	for n := range 3 {
		takes(t, g, 1, n, 0, wins(4, 0, 9)...)
	}
	joins(t, g, false, 2)
	acks(t, g, true, 1)
	is(t, "shared", g, state{members: []int{1, 2}, owners: []int{1, 1, 2, 2}, gen: 3})
	takes(t, g, 1, 0, 1, wins(4, 0, 9)...) // behind place 2 and place 3, round
	takes(t, g, 2, 2, 0, wins(4, 0, 9)...)
	takes(t, g, 2, 3, 0, wins(4, 0, 9)...)
	takes(t, g, 2, 2, 1, wins(4, 0, 9)...)
	leaves(t, g, true, 1)
	picks(t, g, 2, 3, 1, wins(4, 0, 9)...)
	joins(t, g, false, 1)
	acks(t, g, true, 2)
	is(t, "shared again", g, state{members: []int{1, 2}, owners: []int{2, 2, 1, 1}, gen: 5})
	takes(t, g, 1, 2, 0, wins(4, 0, 9)...) // the first of its places, behind place 0
	takes(t, g, 2, 0, 0, wins(4, 0, 9)...) // behind place 2
}

// 19.2: one that left, and joined again, goes on behind the place of which it was delivered something last.
func TestLastPlaceOfOneThatCameAgain(t *testing.T) {
	g := shared(t, 3, 1)
	takes(t, g, 1, 0, 0, wins(3, 0, 9)...)
	takes(t, g, 1, 1, 0, wins(3, 0, 9)...)
	leaves(t, g, true, 1)
	joins(t, g, true, 6)
	picks(t, g, 6, 0, 0, wins(3, 0, 9)...)
	leaves(t, g, true, 6)
	joins(t, g, true, 1)
	takes(t, g, 1, 2, 0, wins(3, 0, 9)...)
	takes(t, g, 1, 0, 0, wins(3, 0, 9)...)
}

// 19.2: what is revoked is delivered no more, to nobody, till it is acknowledged; then it is delivered to its new owner.
func TestRevoked(t *testing.T) {
	g := shared(t, 2, 1)
	joins(t, g, false, 2)
	notTaken(t, g, api.ErrNone, 1, win(1, 0, 9))
	notTaken(t, g, api.ErrNone, 2, wins(2, 0, 9)...)
	takes(t, g, 1, 0, 0, wins(2, 0, 9)...)
	takes(t, g, 1, 0, 1, wins(2, 0, 9)...) // its other one is passed over
	acks(t, g, true, 1)
	notTaken(t, g, api.ErrNone, 1, win(1, 0, 9))
	notTaken(t, g, api.ErrNone, 2, win(0, 0, 9))
	takes(t, g, 2, 1, 0, wins(2, 0, 9)...)
	takes(t, g, 1, 0, 2, wins(2, 0, 9)...)
}

// 19.2: what was revoked, and is so no more, since who was to get it left, is delivered again, where it was.
func TestNotRevokedAnyMore(t *testing.T) {
	g := shared(t, 2, 1)
	takes(t, g, 1, 0, 0, wins(2, 0, 9)...)
	takes(t, g, 1, 1, 0, wins(2, 0, 9)...)
	joins(t, g, false, 2)
	notTaken(t, g, api.ErrNone, 1, win(1, 0, 9))
	leaves(t, g, true, 2)
	takes(t, g, 1, 1, 1, win(1, 0, 9))
}

// 19.2: what was acknowledged is nobody's till the last one acknowledges: it is delivered to nobody.
func TestAcknowledgedByOne(t *testing.T) {
	g := shared(t, 6, 1, 2)
	joins(t, g, false, 3)
	acks(t, g, false, 1)
	for _, id := range []int{1, 2, 3} {
		notTaken(t, g, api.ErrNone, id, win(2, 0, 9), win(5, 0, 9))
	}
	acks(t, g, true, 2)
	takes(t, g, 3, 2, 0, wins(6, 0, 9)...)
	takes(t, g, 3, 5, 0, wins(6, 0, 9)...)
}

// 19.2: of several windows of a place the first one counts, also where it has nothing, or is none, and a later one has something.
func TestFirstWindowCounts(t *testing.T) {
	g := shared(t, 2, 1)
	takes(t, g, 1, 0, 3, win(0, 3, 4), win(0, 0, 9), win(0, 5, 6))
	takes(t, g, 1, 1, 5, win(1, 5, 6), win(0, 0, 9), win(1, 0, 9)) // behind place 0
	notTaken(t, g, api.ErrNone, 1, win(0, 0, 0), win(0, 0, 9), win(0, 5, 6))
	notTaken(t, g, api.ErrNone, 1, win(0, 4, 3), win(0, 0, 9))
	notTaken(t, g, api.ErrNone, 1, win(0, 0, api.MaxOffset+1), win(0, 0, 9))
	takes(t, g, 1, 1, 6, win(0, 0, 0), win(1, 0, 9), win(0, 0, 9), win(1, 8, 9))
	takes(t, g, 1, 0, 4, win(0, 0, 5), win(0, 8, 9), win(0, 3, 2))
	marked(t, "in the end", g, [2]int{3, 5}, [2]int{5, 7})
}

// 19.2: a place of which no window tells is passed over, and one whose window is empty, whose tail is not behind its next offset, or that is no window.
func TestPassedOver(t *testing.T) {
	g := shared(t, 5, 1)
	seeks(t, g, 1, win(2, 0, 9), 6)
	takes(t, g, 1, 4, 0, win(1, 0, 0), win(2, 0, 6), win(3, 9, 8), win(4, 0, 1))
	takes(t, g, 1, 3, 2, win(1, 4, 4), win(2, 5, 5), win(3, 2, 4), win(4, 0, 1))
	takes(t, g, 1, 3, 3, win(1, 4, 4), win(2, 0, 3), win(3, 2, 4), win(4, 0, 1))
	takes(t, g, 1, 2, 6, win(2, 0, 7))
	takes(t, g, 1, 0, 0, wins(5, 0, 1)...) // places 3 and 4 are delivered beyond that tail, or up to it
	marked(t, "in the end", g, [2]int{0, 1}, [2]int{}, [2]int{6, 7}, [2]int{2, 4}, [2]int{0, 1})
}

// 19.2: heads that moved past what was delivered: the head is delivered, and all from what is committed on is skipped; up to the next offset nothing is.
func TestHeadsMoveOn(t *testing.T) {
	g := shared(t, 1, 1)
	for at := range 3 {
		takes(t, g, 1, 0, at, win(0, 0, 9))
	}
	commits(t, g, 1, 0, 1)
	takes(t, g, 1, 0, 3, win(0, 3, 9))
	listed(t, "a head at the next one", g, 0, 0, spans(0, 1), nil)
	picks(t, g, 1, 0, 6, win(0, 6, 9))
	takes(t, g, 1, 0, 6, win(0, 6, 9))
	marked(t, "a head past the next one", g, [2]int{6, 7})
	listed(t, "a head past the next one", g, 0, 0, spans(0, 1), spans(1, 6))
	same(t, "what was lost", int(g.Commit(1, 2, placed(1)[0], 4)), int(api.ErrWindow))
	commits(t, g, 1, 0, 7)
	listed(t, "committed behind it", g, 0, 0, spans(0, 1, 6, 7), spans(1, 6))
}

// full is a group of one member with three places, of which the second one's ledger has as many spans as there may be, the last one accepted, or skipped. What it answers, too, is up to where that place is committed.
func full(t *testing.T, accepted bool) (*group.Group, int) {
	t.Helper()
	g, at := shared(t, 3, 1), 0
	for n := range api.MaxItems {
		if accepted == (n%2 == 1) {
			g.Take(1, win(1, at, at+1))
			commits(t, g, 1, 1, at+1)
		} else {
			seeks(t, g, 1, win(1, at+1, at+1), at+1)
		}
		at++
	}
	marked(t, "full", g, [2]int{}, [2]int{at, at}, [2]int{})
	l := g.Ledger(win(1, 0, 0).Place)
	same(t, "its spans", len(l.Accepted())+len(l.Skipped()), api.MaxItems)
	return g, at
}

// 19.2, P1, P2: where the ledger has no room for what is lost, Take answers ErrFull and changes nothing, though Pick tells the offset, and another place has something; the same of what is sought past, and of what is committed.
func TestFullLedger(t *testing.T) {
	g, at := full(t, true)
	takes(t, g, 1, 0, 0, win(0, 0, 9)) // so that place 1 comes first
	picks(t, g, 1, 1, at+1, win(2, 0, 9), win(1, at+1, at+3))
	for range 2 {
		refused(t, "Take", g, api.ErrFull, func() api.Errno {
			p, offset, e := g.Take(1, win(2, 0, 9), win(1, at+1, at+3))
			same(t, "Take", answers(p, offset), answers(api.Place{}, 0))
			return e
		})
		refused(t, "Seek", g, api.ErrFull, func() api.Errno { return g.Seek(1, g.Gen(), win(1, at, at+3), at+2) })
	}
	takes(t, g, 1, 1, at, win(1, at, at+3)) // nothing is lost
	commits(t, g, 1, 1, at+1)
	g, at = full(t, false)
	takes(t, g, 1, 1, at, win(1, at, at+3))
	refused(t, "Commit", g, api.ErrFull, func() api.Errno { return g.Commit(1, g.Gen(), win(1, 0, 0).Place, at+1) })
	takes(t, g, 1, 1, at+2, win(1, at+2, at+3)) // what is lost goes on with what was skipped
}

// 19.3: how far members are behind: of all places that they have together, the tail less the next offset, or the head if that is greater.
func TestBehind(t *testing.T) {
	g := shared(t, 5, 2, 1) // 1 has three places, 2 has two
	same(t, "no windows", g.Behind(), []api.Far{{Id: 1}, {Id: 2}})
	same(t, "all places", g.Behind(wins(5, 0, 9)...), []api.Far{{Id: 1, Behind: 27}, {Id: 2, Behind: 18}})
	for range 4 {
		g.Take(1, wins(5, 0, 9)...)
	}
	same(t, "behind four deliveries", g.Behind(wins(5, 0, 9)...), []api.Far{{Id: 1, Behind: 23}, {Id: 2, Behind: 18}})
	commits(t, g, 1, 0, 2)
	same(t, "behind a commit", g.Behind(wins(5, 0, 9)...), []api.Far{{Id: 1, Behind: 23}, {Id: 2, Behind: 18}})
	same(t, "some places", g.Behind(win(4, 0, 9), win(0, 0, 9)), []api.Far{{Id: 1, Behind: 7}, {Id: 2, Behind: 9}})
	same(t, "heads ahead of the next one", g.Behind(win(0, 2, 9), win(1, 3, 9), win(3, 5, 6)), []api.Far{{Id: 1, Behind: 13}, {Id: 2, Behind: 1}})
	same(t, "tails at the next one, and below it", g.Behind(win(0, 0, 2), win(1, 0, 0), win(2, 0, 3), win(3, 0, 0)), []api.Far{{Id: 1, Behind: 2}, {Id: 2}})
	same(t, "windows at the next one, and below it", g.Behind(win(0, 1, 1), win(1, 1, 1), win(4, 7, 7)), []api.Far{{Id: 1}, {Id: 2}})
	same(t, "the first of several", g.Behind(win(0, 0, 5), win(0, 0, 9), win(4, 1, 1), win(4, 0, 9)), []api.Far{{Id: 1, Behind: 3}, {Id: 2}})
	same(t, "places that it has not", g.Behind(win(5, 0, 9), win(9, 0, 9), group.Window{Place: nowhere[0], Tail: 9}), []api.Far{{Id: 1}, {Id: 2}})
	for _, w := range noWindows() {
		same(t, fmt.Sprint("no window ", w), g.Behind(win(0, w[0], w[1]), win(3, w[0], w[1]), win(1, 0, 9), win(0, 0, 9)), []api.Far{{Id: 1, Behind: 8}, {Id: 2}})
	}
	same(t, "nothing changed", g.Behind(wins(5, 0, 9)...), []api.Far{{Id: 1, Behind: 23}, {Id: 2, Behind: 18}})
	seeks(t, g, 2, win(4, 0, 9), 6)
	same(t, "behind a seek", g.Behind(wins(5, 0, 9)...), []api.Far{{Id: 1, Behind: 23}, {Id: 2, Behind: 12}})
}

// 19.3: what is revoked of a member it has, till it acknowledges; what nobody has counts for nobody; without members there is nobody.
func TestBehindWhileChanging(t *testing.T) {
	g := shared(t, 6, 1, 2)
	joins(t, g, false, 3)
	same(t, "ahead", g.Behind(wins(6, 0, 9)...), []api.Far{{Id: 1, Behind: 27}, {Id: 2, Behind: 27}, {Id: 3}})
	acks(t, g, false, 1)
	same(t, "one did", g.Behind(wins(6, 0, 9)...), []api.Far{{Id: 1, Behind: 18}, {Id: 2, Behind: 27}, {Id: 3}})
	acks(t, g, true, 2)
	same(t, "both did", g.Behind(wins(6, 0, 9)...), []api.Far{{Id: 1, Behind: 18}, {Id: 2, Behind: 18}, {Id: 3, Behind: 18}})
	for id := 1; id < 4; id++ {
		g.Leave(id)
	}
	same(t, "nobody", g.Behind(wins(6, 0, 9)...), []api.Far{})
}

// 19.3: the greatest offsets of the most places do not go round.
func TestBehindTheMost(t *testing.T) {
	g := shared(t, 256, 0)
	same(t, "Behind", g.Behind(wins(256, 0, api.MaxOffset)...), []api.Far{{Id: 0, Behind: 256 << 40}})
}
