package group_test

import (
	"fmt"
	"math"
	"slices"
	"testing"

	"postrider/api"
	"postrider/group"
)

// mixed is a changing group at generation 4, with places of all sorts, of each of which two offsets were delivered and one is committed: 0 and 1 are member 1's, 2 is nobody's, as 1 acknowledged it, 3 and 4 are member 2's, and so is 5, that is revoked; 6 it has no more, and 7 it never had. Member 3 is to get 2 and 5.
func mixed(t *testing.T) *group.Group {
	t.Helper()
	g := shared(t, 7, 1, 2)
	spreads(t, g, false, wins(6, 0, 9)...)
	acks(t, g, true, 1)
	for range 6 {
		g.Take(1, wins(6, 0, 9)...)
		g.Take(2, wins(6, 0, 9)...)
	}
	for n := range 6 {
		commits(t, g, 1+n/3, n, 1)
	}
	joins(t, g, false, 3)
	acks(t, g, false, 1)
	is(t, "mixed", g, state{members: []int{1, 2, 3}, owners: []int{1, 1, nobody, 2, 2, 2}, waits: []int{2}, gen: 4})
	marked(t, "mixed", g, [2]int{1, 2}, [2]int{1, 2}, [2]int{1, 1}, [2]int{1, 2}, [2]int{1, 2}, [2]int{1, 2}, [2]int{0, 0})
	return g
}

// judged is why one may do nothing with a place of the mixed group; OK if it may commit.
func judged(id, gen, n int) api.Errno {
	switch {
	case id < 1 || id > 3:
		return api.ErrMember
	case gen != 4:
		return api.ErrFence
	case n > 5:
		return api.ErrNone
	case []int{1, 1, nobody, 2, 2, 2}[n] != id:
		return api.ErrFence
	}
	return api.OK
}

// others are what is told of all places of the mixed group but one.
func others(g *group.Group, n int) string {
	text := ""
	for i, p := range placed(8) {
		if i != n {
			committed, next, e := g.Marks(p)
			text += fmt.Sprint(committed, next, int(e), " ")
			if l := g.Ledger(p); l != nil {
				text += fmt.Sprint(l.From(), l.End(), l.Accepted(), l.Skipped(), " ")
			}
		}
	}
	return text
}

// nextOf is the next offset of the list's place of that number.
func nextOf(g *group.Group, n int) int {
	_, next, _ := g.Marks(win(n, 0, 0).Place)
	return next
}

// mayCommit holds what a commit in the mixed group answers, and what it leaves; a mixed group is left behind it.
func mayCommit(t *testing.T, g *group.Group, id, gen, n, to int) *group.Group {
	t.Helper()
	want, what := judged(id, gen, n), fmt.Sprint("Commit(", id, ", ", gen, ", place ", n, ", ", to, ")")
	if want == api.OK && (to < 0 || to > api.MaxOffset) {
		want = api.ErrArg
	} else if want == api.OK && to != 2 {
		want = api.ErrWindow
	}
	was, p := others(g, n), win(n, 0, 0).Place
	same(t, what, int(g.Commit(id, gen, p, to)), int(want))
	if want != api.OK {
		return g
	}
	listed(t, what, g, n, 0, spans(0, 2), nil)
	same(t, what+": the next one", nextOf(g, n), 2)
	same(t, what+": 19.7: the other places", others(g, n), was)
	refused(t, what+" again", g, api.ErrWindow, func() api.Errno { return g.Commit(id, gen, p, to) })
	return mixed(t)
}

// 19.2, 19.6, 19.7, P1, P2: in places of all sorts, by members and others, at all generations, up to offsets of all sorts: the first error is told, and nothing changes; or all is accepted up to there, in that place alone.
func TestCommit(t *testing.T) {
	g := mixed(t)
	for _, id := range slices.Concat(none, sessions()) {
		for _, gen := range []int{math.MinInt, -4, -1, 0, 3, 4, 5, 8, api.MaxOffset, math.MaxInt} {
			for n := range 8 {
				for _, to := range slices.Concat(below, []int{0, 1, 2, 3, api.MaxOffset}, above) {
					g = mayCommit(t, g, id, gen, n, to)
				}
			}
		}
		unchanged(t, fmt.Sprint("behind what was refused of ", id), g, told(mixed(t), placed(8)...))
	}
}

// sought is why one may not seek, of a track up to 1 of which is committed, and whose next offset is 2; OK if it may.
func sought(to, head, tail int) api.Errno {
	switch {
	case to < 0, to > api.MaxOffset, head < 0, head > tail, tail > api.MaxOffset:
		return api.ErrArg
	case to < head, to > tail, to < 1:
		return api.ErrWindow
	}
	return api.OK
}

// maySeek holds what a seek in the mixed group answers, and what it leaves; a mixed group is left behind it.
func maySeek(t *testing.T, g *group.Group, id, gen int, w group.Window, n, to int) *group.Group {
	t.Helper()
	want, what := judged(id, gen, n), fmt.Sprint("Seek(", id, ", ", gen, ", place ", n, ", ", w, ", ", to, ")")
	if want == api.OK && n == 5 {
		want = api.ErrShare
	} else if want == api.OK {
		want = sought(to, w.Head, w.Tail)
	}
	was, skipped := others(g, n), spans()
	same(t, what, int(g.Seek(id, gen, w, to)), int(want))
	if want != api.OK {
		return g
	}
	if to > 2 {
		skipped = spans(1, to)
	}
	listed(t, what, g, n, 0, spans(0, 1), skipped)
	same(t, what+": the next one", nextOf(g, n), to)
	same(t, what+": 19.7: the other places", others(g, n), was)
	return mixed(t)
}

// 19.2, 19.7, P1, P2: in places of all sorts, by members and others, at all generations, to offsets and in windows of all sorts: the first error is told, and nothing changes; or it is the next one, in that place alone, and what is sought past is skipped. What is revoked is not sought in.
func TestSeek(t *testing.T) {
	windows := append(noWindows()[:6], [2]int{0, 9}, [2]int{2, 5}, [2]int{4, 4}, [2]int{0, 0})
	g := mixed(t)
	for _, id := range []int{math.MinInt, -1, 0, 1, 2, 3, 4, 15, 16} {
		for _, gen := range []int{-1, 0, 3, 4, 5} {
			for n := range 8 {
				for _, w := range windows {
					for _, to := range []int{math.MinInt, -1, 0, 1, 2, 3, 4, 5, 9, 10, api.MaxOffset + 1} {
						g = maySeek(t, g, id, gen, win(n, w[0], w[1]), n, to)
					}
				}
			}
		}
		unchanged(t, fmt.Sprint("behind what was refused of ", id), g, told(mixed(t), placed(8)...))
	}
}

// 19.2, 19.6: what is revoked may be committed till it is acknowledged, at the table's generation, and no more by the one that had it; by its new owner once that was delivered it.
func TestCommitOfTheRevoked(t *testing.T) {
	g := shared(t, 2, 1)
	for range 3 {
		takes(t, g, 1, 1, nextOf(g, 1), win(1, 0, 9))
	}
	commits(t, g, 1, 1, 1)
	p := win(1, 0, 0).Place
	joins(t, g, false, 2)
	marked(t, "revoked", g, [2]int{0, 0}, [2]int{1, 3})
	refused(t, "Commit by who is to get it", g, api.ErrFence, func() api.Errno { return g.Commit(2, 2, p, 2) })
	refused(t, "Commit at the next generation", g, api.ErrFence, func() api.Errno { return g.Commit(1, 3, p, 2) })
	refused(t, "Seek", g, api.ErrShare, func() api.Errno { return g.Seek(1, 2, win(1, 0, 9), 2) })
	refused(t, "Seek at another generation", g, api.ErrFence, func() api.Errno { return g.Seek(1, 1, win(1, 0, 9), 2) })
	commits(t, g, 1, 1, 2)
	marked(t, "committed while revoked", g, [2]int{0, 0}, [2]int{2, 3})
	acks(t, g, true, 1)
	marked(t, "acknowledged", g, [2]int{0, 0}, [2]int{2, 2})
	refused(t, "Commit by who had it", g, api.ErrFence, func() api.Errno { return g.Commit(1, 3, p, 3) })
	refused(t, "Commit by who had it, at the elder generation", g, api.ErrFence, func() api.Errno { return g.Commit(1, 2, p, 3) })
	refused(t, "Seek by who had it", g, api.ErrFence, func() api.Errno { return g.Seek(1, 3, win(1, 0, 9), 2) })
	refused(t, "Commit of what its new owner was not delivered", g, api.ErrWindow, func() api.Errno { return g.Commit(2, 3, p, 3) })
	takes(t, g, 2, 1, 2, wins(2, 0, 9)...)
	commits(t, g, 2, 1, 3)
	listed(t, "in the end", g, 1, 0, spans(0, 3), nil)
}

// 19.2: members commit and seek in places that come and go only while these are there.
func TestCommitOfWhatIsGone(t *testing.T) {
	g := shared(t, 2, 1)
	takes(t, g, 1, 0, 0, wins(2, 0, 9)...)
	takes(t, g, 1, 1, 0, wins(2, 0, 9)...)
	spreads(t, g, true, win(0, 0, 9))
	p := win(1, 0, 0).Place
	refused(t, "Commit", g, api.ErrNone, func() api.Errno { return g.Commit(1, 3, p, 1) })
	refused(t, "Seek", g, api.ErrNone, func() api.Errno { return g.Seek(1, 3, win(1, 0, 9), 1) })
	refused(t, "Commit at another generation", g, api.ErrFence, func() api.Errno { return g.Commit(1, 2, p, 1) })
	refused(t, "Seek at another generation", g, api.ErrFence, func() api.Errno { return g.Seek(1, 2, win(1, 0, 9), 1) })
	commits(t, g, 1, 0, 1)
	spreads(t, g, true, wins(2, 0, 9)...)
	refused(t, "Commit of what was delivered ahead of that", g, api.ErrWindow, func() api.Errno { return g.Commit(1, 4, p, 1) })
	takes(t, g, 1, 1, 0, win(1, 0, 9))
	commits(t, g, 1, 1, 1)
	marked(t, "in the end", g, [2]int{1, 1}, [2]int{1, 1})
}

// 19.2, 19.5: what is sought back is delivered again, down to what is committed; a seek is no commit.
func TestSeekBack(t *testing.T) {
	g := shared(t, 1, 1)
	for at := range 4 {
		takes(t, g, 1, 0, at, win(0, 0, 9))
	}
	commits(t, g, 1, 0, 2)
	seeks(t, g, 1, win(0, 0, 9), 2)
	marked(t, "sought back", g, [2]int{2, 2})
	takes(t, g, 1, 0, 2, win(0, 0, 9))
	refused(t, "Seek", g, api.ErrWindow, func() api.Errno { return g.Seek(1, 2, win(0, 0, 9), 1) })
	seeks(t, g, 1, win(0, 0, 9), 9)
	marked(t, "sought to the tail", g, [2]int{9, 9})
	notTaken(t, g, api.ErrNone, 1, win(0, 0, 9))
	listed(t, "in the end", g, 0, 0, spans(0, 2), spans(2, 9))
}

// begun is a group of these members that have the first n places; of each of them three offsets were delivered, and one is committed.
func begun(t *testing.T, n int, ids ...int) *group.Group {
	t.Helper()
	g := shared(t, n, ids...)
	for _, o := range g.Owners() {
		w := group.Window{Place: o.Place, Head: 0, Tail: 9}
		for range 3 {
			if _, _, e := g.Take(o.Id, w); e != api.OK {
				t.Fatalf("Take(%d, %v): %d", o.Id, w, int(e))
			}
		}
		if e := g.Commit(o.Id, g.Gen(), o.Place, 1); e != api.OK {
			t.Fatalf("Commit(%d, %v): %d", o.Id, w, int(e))
		}
	}
	return g
}

// went holds which of the list's first places went back to what is committed, and that all others stayed where they were.
func went(t *testing.T, what string, g *group.Group, n int, back ...int) {
	t.Helper()
	marks := slices.Repeat([][2]int{{1, 3}}, n)
	for _, at := range back {
		marks[at] = [2]int{1, 1}
	}
	marked(t, what, g, marks...)
}

// 19.1, 19.5: behind an acknowledgement its place is another one's, or nobody's till the last one acknowledges: what was not committed is delivered again. Of all others nothing is.
func TestBackByAck(t *testing.T) {
	g := begun(t, 6, 1, 2)
	joins(t, g, false, 3)
	went(t, "Join(3)", g, 6)
	acks(t, g, false, 2)
	went(t, "Ack(2)", g, 6, 5)
	notAcked(t, g, 2, 3)
	acks(t, g, true, 1)
	went(t, "Ack(1)", g, 6, 2, 5)
	takes(t, g, 3, 2, 1, wins(6, 0, 9)...)
	takes(t, g, 3, 5, 4, wins(6, 4, 9)...) // the head moved past what was committed
	takes(t, g, 1, 0, 3, wins(6, 0, 9)...)
	listed(t, "lost", g, 5, 0, spans(0, 1), spans(1, 4))
}

// 19.1, 19.5: where one leaves, its places become another one's, or nobody's, at once or not, and go back; so do those that others lose by that.
func TestBackByLeave(t *testing.T) {
	g := begun(t, 6, 1, 2, 3)
	leaves(t, g, true, 2)
	is(t, "Leave(2)", g, state{members: []int{1, 3}, owners: []int{1, 1, 1, 3, 3, 3}, gen: 5})
	went(t, "Leave(2)", g, 6, 2, 3)
	for at := 1; at < 3; at++ {
		takes(t, g, 1, 2, at, win(2, 0, 9))
		takes(t, g, 3, 3, at, win(3, 0, 9))
	}
	went(t, "delivered again", g, 6)
	leaves(t, g, true, 1)
	went(t, "Leave(1)", g, 6, 0, 1, 2)
	leaves(t, g, true, 3)
	is(t, "Leave(3)", g, state{owners: slices.Repeat([]int{nobody}, 6), gen: 7})
	went(t, "Leave(3)", g, 6, 0, 1, 2, 3, 4, 5)
	joins(t, g, true, 3)
	went(t, "Join(3)", g, 6, 0, 1, 2, 3, 4, 5)
	for n := range 6 {
		takes(t, g, 3, n, 1, win(n, 0, 9))
	}
}

// 19.1, 19.5: one that leaves and joins again at once, the first session, too, has nothing in between: what it was delivered, and did not commit, is delivered again.
func TestBackOfOneThatComesAgain(t *testing.T) {
	for _, id := range []int{0, 1, 7, 15} {
		g := begun(t, 2, id)
		leaves(t, g, true, id)
		went(t, fmt.Sprint("Leave(", id, ")"), g, 2, 0, 1)
		joins(t, g, true, id)
		same(t, "Commit", int(g.Commit(id, g.Gen(), win(0, 0, 0).Place, 3)), int(api.ErrWindow))
		takes(t, g, id, 0, 1, wins(2, 0, 9)...)
		takes(t, g, id, 1, 1, wins(2, 0, 9)...)
		spreads(t, g, true)
		went(t, "no places", g, 2, 0, 1)
	}
}

// 19.1, 19.5: where one leaves while others must acknowledge, its places are nobody's, and go back at once.
func TestBackByLeaveWhileChanging(t *testing.T) {
	g := begun(t, 6, 1, 2)
	joins(t, g, false, 3)
	joins(t, g, false, 4)
	leaves(t, g, false, 2)
	is(t, "Leave(2)", g, state{members: []int{1, 3, 4}, owners: []int{1, 1, 1, nobody, nobody, nobody}, waits: []int{1}, gen: 3})
	went(t, "Leave(2)", g, 6, 3, 4, 5)
	acks(t, g, true, 1)
	went(t, "Ack(1)", g, 6, 2, 3, 4, 5)
}

// 19.1, 19.5: what one acknowledged is nobody's, and went back, also where it is its own again behind the next Join or Leave.
func TestBackThoughItIsItsOwnAgain(t *testing.T) {
	g := begun(t, 6, 1, 2)
	joins(t, g, false, 3)
	acks(t, g, false, 1)
	leaves(t, g, true, 3)
	is(t, "Leave(3)", g, state{members: []int{1, 2}, owners: []int{1, 1, 1, 2, 2, 2}, gen: 4})
	went(t, "Leave(3)", g, 6, 2)
	takes(t, g, 1, 2, 1, win(2, 0, 9))
}

// 19.1, 19.5: places that a Spread leaves out are nobody's, and go back, and so do those that change hands by it; the others stay.
func TestBackBySpread(t *testing.T) {
	g := begun(t, 4, 1, 2)
	spreads(t, g, false, win(0, 0, 9), win(1, 0, 9)) // both are 1's
	went(t, "two fewer", g, 4, 2, 3)
	spreads(t, g, true, wins(4, 0, 9)...)
	is(t, "again", g, state{members: []int{1, 2}, owners: []int{1, 1, 2, 2}, gen: 4})
	went(t, "again", g, 4, 2, 3)
	spreads(t, g, false, win(0, 0, 9), win(1, 0, 9))
	acks(t, g, true, 1)
	went(t, "acknowledged", g, 4, 1, 2, 3)
	takes(t, g, 2, 1, 1, win(1, 0, 9))
	g = begun(t, 2, 1)
	spreads(t, g, true, win(1, 0, 9), win(2, 0, 9)) // one goes, one comes, one stays
	went(t, "one goes, one comes", g, 2, 0)
	marked(t, "one goes, one comes", g, [2]int{1, 1}, [2]int{1, 3}, [2]int{0, 0})
}

// 19.1, 19.5: where the owner stays, nothing is delivered again, whatever else is begun anew, or refused.
func TestNotBack(t *testing.T) {
	g := begun(t, 4, 1, 2)
	spreads(t, g, true, wins(4, 0, 9)...)
	spreads(t, g, true, wins(4, 5, 7)...)
	spreads(t, g, true, win(3, 0, 9), win(1, 0, 9), win(2, 0, 9), win(0, 0, 9))
	went(t, "spread again", g, 4)
	spreads(t, g, true, wins(6, 0, 9)...)
	went(t, "two more", g, 4)
	joins(t, g, false, 3)
	joins(t, g, false, 4)
	leaves(t, g, false, 4)
	leaves(t, g, true, 3)
	went(t, "some came and left", g, 4)
	notJoined(t, g, api.ErrSame, 1)
	notLeft(t, g, api.ErrMember, 3)
	notAcked(t, g, 1, 2, 3)
	notSpread(t, g, api.ErrArg, win(0, 0, 9), win(0, 0, 9))
	notSpread(t, g, api.ErrArg, win(0, 9, 0))
	notSpread(t, g, api.ErrLong, wins(257, 0, 9)...)
	went(t, "refused", g, 4)
	for n := range 4 {
		takes(t, g, 1+n/2, n, 3, win(n, 0, 9))
	}
}

// 19.7: what a member is delivered of one place, commits and seeks there moves that one's track alone.
func TestOtherPlacesStay(t *testing.T) {
	for n := range 4 {
		g := begun(t, 4, 1, 2)
		was, id := others(g, n), 1+n/2
		takes(t, g, id, n, 3, win(n, 0, 9))
		commits(t, g, id, n, 2)
		seeks(t, g, id, win(n, 0, 9), 2)
		seeks(t, g, id, win(n, 0, 9), 7)
		takes(t, g, id, n, 8, win(n, 8, 9))
		commits(t, g, id, n, 9)
		listed(t, "its own", g, n, 0, spans(0, 2, 8, 9), spans(2, 8))
		same(t, "the others", others(g, n), was)
	}
}
