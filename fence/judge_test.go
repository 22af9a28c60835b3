package fence_test

import (
	"fmt"
	"math"
	"slices"
	"testing"

	"postrider/api"
	"postrider/fence"
	"postrider/rebal"
)

// The places that no table of these tests has, and the numbers that are no sessions'.
var (
	nowhere = []api.Place{{Topic: -1, Part: 0}, {Topic: 0, Part: -1}, {Topic: 9, Part: 9}, {Topic: math.MinInt, Part: math.MaxInt}}
	none    = []int{math.MinInt, -2, -1, api.MaxSessions, api.MaxSessions + 1, math.MaxInt}
)

// places are n places, of which every two have the same topic.
func places(n int) []api.Place {
	list := []api.Place{}
	for i := range n {
		list = append(list, api.Place{Topic: i / 2, Part: i % 2})
	}
	return list
}

// sessions are the numbers of all sessions, and of none.
func sessions() []int {
	ids := slices.Clone(none)
	for id := range api.MaxSessions {
		ids = append(ids, id)
	}
	return ids
}

// begins begins anew where that is not to be refused, and holds if the table is settled.
func begins(t *testing.T, table *rebal.Table, settled bool, places []api.Place, members ...int) {
	t.Helper()
	is, e := table.Begin(places, members...)
	if is != settled || e != api.OK {
		t.Fatalf("Begin(%v, %v): %v, %d, want %v", places, members, is, int(e), settled)
	}
}

// acks acknowledges where that is not to be refused, and holds if the table is settled.
func acks(t *testing.T, table *rebal.Table, settled bool, id int) {
	t.Helper()
	if is, e := table.Ack(id); is != settled || e != api.OK {
		t.Fatalf("Ack(%d): %v, %d, want %v", id, is, int(e), settled)
	}
}

// tells is all that a table tells, but what of each place.
func tells(table *rebal.Table) string {
	return fmt.Sprint(table.Settled(), table.Gen(), table.Owners(), table.Target(), table.Waits())
}

// judged holds what is judged of all sessions, and of what is none, at all generations about the table's, and of all places, against who has them: who has a place has it till it acknowledges; none of it changes the table.
func judged(t *testing.T, what string, table *rebal.Table, gen int, places []api.Place, owners ...int) {
	t.Helper()
	was := tells(table)
	for _, id := range sessions() {
		for _, g := range []int{math.MinInt, -1, 0, gen - 2, gen - 1, gen, gen + 1, gen + 2, api.MaxOffset, math.MaxInt} {
			for i, p := range slices.Concat(places, nowhere) {
				want := api.ErrFence
				switch {
				case g != gen:
				case i >= len(places):
					want = api.ErrNone
				case owners[i] == id && id >= 0:
					want = api.OK
				}
				if e := fence.Judge(table, id, g, p); e != want {
					t.Errorf("%s: Judge(%d, %d, %v): %d, want %d", what, id, g, p, int(e), int(want))
				}
			}
		}
	}
	same(t, what+": the table behind it", tells(table), was)
}

// 18.3, P1: a table that is none, or that no call made: ErrNil, ahead of all other errors.
func TestJudgeNil(t *testing.T) {
	for kind, table := range map[string]*rebal.Table{"nil": nil, "plain": {}, "new": new(rebal.Table)} {
		for _, id := range sessions() {
			for _, gen := range []int{math.MinInt, -1, 0, 1, math.MaxInt} {
				for _, p := range slices.Concat(places(2), nowhere) {
					same(t, fmt.Sprint(kind, ": Judge", id, gen, p), int(fence.Judge(table, id, gen, p)), int(api.ErrNil))
				}
			}
		}
	}
}

// 18.3: a new table is at generation 0, and has no places; at each other one ErrFence comes ahead of ErrNone.
func TestJudgeOfANewTable(t *testing.T) {
	table := rebal.Make()
	judged(t, "new", table, 0, nil)
	for _, p := range places(4) {
		same(t, "at its generation", int(fence.Judge(table, 1, 0, p)), int(api.ErrNone))
		same(t, "at another one", int(fence.Judge(table, 1, 1, p)), int(api.ErrFence))
	}
}

// 18.3: what one has, what another one has, and what nobody has: of tables that are settled, without places, without members, with one, and with as many as there may be.
func TestJudgeSettled(t *testing.T) {
	p, table := places(9), rebal.Make()
	begins(t, table, true, nil, 1, 2)
	judged(t, "no places", table, 1, nil)
	begins(t, table, true, p[:3])
	judged(t, "no members", table, 2, p[:3], -1, -1, -1)
	begins(t, table, true, p[:3], 15)
	judged(t, "one member", table, 3, p[:3], 15, 15, 15)
	begins(t, table, true, p[:3], 0)
	judged(t, "another member", table, 4, p[:3], 0, 0, 0)
	begins(t, table, true, p[:2], 0)
	judged(t, "a place that is no more", table, 5, p[:2], 0, 0)
	begins(t, table, true, nil)
	begins(t, table, true, p, 0, 1, 2, 3, 12, 13, 14, 15)
	judged(t, "all members", table, 7, p, 0, 0, 1, 2, 3, 12, 13, 14, 15)
	begins(t, table, true, p, 0, 1, 2, 3, 12, 13, 14, 15)
	judged(t, "the same once more", table, 8, p, 0, 0, 1, 2, 3, 12, 13, 14, 15)
}

// 18.3: what is revoked of one may be committed till it is acknowledged; then by nobody, till the table is settled; then by the one that has it, and at the new generation alone.
func TestJudgeChanging(t *testing.T) {
	p, table := places(6), rebal.Make()
	begins(t, table, true, p, 1, 2)
	judged(t, "settled", table, 1, p, 1, 1, 1, 2, 2, 2)
	begins(t, table, false, p, 1, 2, 5)
	for i, id := range []int{1, 1, 1, 2, 2, 2} {
		want := api.OK
		if i%3 == 2 {
			want = api.ErrShare
		}
		same(t, "Has, which tells what is revoked", int(table.Has(id, p[i])), int(want))
	}
	judged(t, "nobody acknowledged", table, 1, p, 1, 1, 1, 2, 2, 2)
	acks(t, table, false, 2)
	judged(t, "2 acknowledged", table, 1, p, 1, 1, 1, 2, 2, -1)
	acks(t, table, true, 1)
	judged(t, "all acknowledged", table, 2, p, 1, 1, 5, 2, 2, 5)
	begins(t, table, true, p, 2, 5) // who is no member need not acknowledge, and has nothing any more
	judged(t, "1 left", table, 3, p, 2, 5, 5, 2, 2, 5)
}

// 18.3: to begin anew while the table is changing leaves what is owned with its owners: what is new, and what was acknowledged, nobody commits.
func TestJudgeBegunAgain(t *testing.T) {
	p, table := places(5), rebal.Make()
	begins(t, table, true, p[:4], 1)
	begins(t, table, false, p[:4], 1, 2)
	begins(t, table, false, p, 1, 2)
	judged(t, "a place that is new", table, 1, p, 1, 1, 1, 1, -1)
	begins(t, table, false, p[:4], 1, 2, 3)
	judged(t, "a place that is no more", table, 1, p[:4], 1, 1, 1, 1)
	acks(t, table, true, 1)
	judged(t, "settled", table, 2, p[:4], 1, 1, 2, 3)
	begins(t, table, true, p[:4], 0, 1)
	judged(t, "settled at once", table, 3, p[:4], 1, 1, 0, 0)
	begins(t, table, false, p[:4], 1, 2, 3, 4) // of 1 the second place is revoked, and 0 left
	judged(t, "who left has nothing", table, 3, p[:4], 1, 1, -1, -1)
	acks(t, table, true, 1)
}

// 18.3: of tables of four places that are begun three times, with all sets of four members each, whether or not all acknowledge between, Judge answers as the owners tell, ahead of each acknowledgement and behind it.
func TestJudgeAll(t *testing.T) {
	p, ids := places(5), []int{-1, 0, 1, 2, 3, 16}
	for code := range 16 * 16 * 16 * 2 {
		set := func(shift int) []int {
			return slices.DeleteFunc([]int{0, 1, 2, 3}, func(id int) bool { return code>>(shift+id)&1 == 0 })
		}
		table, past := rebal.Make(), fmt.Sprint(set(0), set(4), set(8), code>>12)
		for shift := 0; shift < 12; shift += 4 {
			if _, e := table.Begin(p[:4], set(shift)...); e != api.OK {
				t.Fatalf("%s: Begin: %d", past, int(e))
			}
			waits := table.Waits()
			if code>>12 == 1 && shift == 4 {
				waits = waits[:len(waits)/2] // some do not acknowledge ahead of the next change
			}
			for i := 0; i <= len(waits); i++ {
				for _, id := range ids {
					for at, place := range p {
						want := api.ErrNone
						if at < 4 {
							want = api.ErrFence
							if id >= 0 && table.Owners()[at].Id == id {
								want = api.OK
							}
						}
						if e := fence.Judge(table, id, table.Gen(), place); e != want {
							t.Fatalf("%s: of %s: Judge(%d, .., %v): %d, want %d", past, tells(table), id, place, int(e), int(want))
						}
						for _, gen := range []int{table.Gen() - 1, table.Gen() + 1} {
							if e := fence.Judge(table, id, gen, place); e != api.ErrFence {
								t.Fatalf("%s: of %s: Judge(%d, %d, %v): %d, want %d", past, tells(table), id, gen, place, int(e), int(api.ErrFence))
							}
						}
					}
				}
				if i < len(waits) {
					if _, e := table.Ack(waits[i]); e != api.OK {
						t.Fatalf("%s: Ack(%d): %d", past, waits[i], int(e))
					}
				}
			}
		}
	}
}

// 18.1 to 18.6: a place changes hands: what its first owner committed, till it acknowledged, stays; what it was delivered beyond that its second one is delivered again, and commits; what the first one commits then is of an elder time.
func TestAPlaceChangesHands(t *testing.T) {
	p, table, track := places(2), rebal.Make(), made(t, 0)
	commits := func(id, gen, to int) api.Errno {
		if e := fence.Judge(table, id, gen, p[1]); e != api.OK {
			return e
		}
		return track.Commit(to)
	}
	begins(t, table, true, p, 1)
	done(t, track, deliver(0, 9), deliver(0, 9), deliver(0, 9), deliver(0, 9))
	same(t, "1 commits", answers(commits(1, 1, 1), commits(1, 0, 2), commits(2, 1, 2), commits(1, 2, 2)), answers(0, 180, 180, 180))
	begins(t, table, false, p, 1, 2)
	same(t, "1 commits what is revoked of it", answers(commits(1, 1, 2), commits(2, 1, 3), commits(1, 1, 9)), answers(0, 180, 61))
	acks(t, table, true, 1)
	done(t, track, back())
	same(t, "1 commits what is 2's", answers(commits(1, 1, 3), commits(1, 2, 3), commits(2, 1, 3), commits(2, 2, 3)), answers(180, 180, 180, 61))
	steps(t, "2 is delivered", track, []step{
		{deliver(0, 9), 2, api.OK, state{next: 3, accepted: spans(0, 2)}},
		{deliver(4, 9), 4, api.OK, state{next: 5, accepted: spans(0, 2), skipped: spans(2, 4)}},
	})
	same(t, "2 commits", answers(commits(1, 1, 5), commits(2, 2, 5)), answers(180, 0))
	is(t, "in the end", track, state{next: 5, accepted: spans(0, 2, 4, 5), skipped: spans(2, 4)})
}
