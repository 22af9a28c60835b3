package rebal_test

import (
	"fmt"
	"math"
	"slices"
	"testing"

	"postrider/api"
	"postrider/rebal"
	"postrider/share"
)

const nobody = -1

// The numbers that are no sessions'.
var none = []int{
	math.MinInt, math.MinInt + 1, -api.MaxOffset, -api.MaxSessions, -api.MaxMembers, -2, -1,
	api.MaxSessions, api.MaxSessions + 1, 2 * api.MaxSessions, api.MaxOffset, math.MaxInt - 1, math.MaxInt,
}

// The places that no table of these tests has.
var nowhere = []api.Place{
	{Topic: -1, Part: 0}, {Topic: 0, Part: -1}, {Topic: -1, Part: -1}, {Topic: 90, Part: 9},
	{Topic: math.MinInt, Part: math.MinInt}, {Topic: math.MaxInt, Part: math.MaxInt},
}

func same(t *testing.T, what string, got, want any) {
	t.Helper()
	if g, w := fmt.Sprint(got), fmt.Sprint(want); g != w {
		t.Errorf("%s: %s, want %s", what, g, w)
	}
}

// answers are a call's results in a row, errors as numbers.
func answers(results ...any) []any {
	for i, r := range results {
		if e, ok := r.(api.Errno); ok {
			results[i] = int(e)
		}
	}
	return results
}

// upTo are the numbers from one on, up to another one, not with it.
func upTo(from, to int) []int {
	ids := []int{}
	for id := from; id < to; id++ {
		ids = append(ids, id)
	}
	return ids
}

// all are the numbers of all sessions, and of none.
func all() []int { return slices.Concat(none, upTo(0, api.MaxSessions)) }

// repeat is a number, n times.
func repeat(id, n int) []int { return slices.Repeat([]int{id}, n) }

// placed are the first n places of a list that neither rises nor falls.
func placed(n int) []api.Place {
	places := []api.Place{}
	for i := range n {
		at := i * 85 % 257 // 85 and 257 have no common divisor, so no two are equal
		places = append(places, api.Place{Topic: at / 8, Part: at % 8})
	}
	return places
}

// owned tells that the ids have the places, one by one.
func owned(places []api.Place, ids []int) []api.Owner {
	owners := []api.Owner{}
	for i, id := range ids {
		owners = append(owners, api.Owner{Place: places[i], Id: id})
	}
	return owners
}

// orders goes on with each order of the ids.
func orders(ids []int, do func([]int)) {
	var choose func(chosen []int)
	choose = func(chosen []int) {
		if len(chosen) == len(ids) {
			do(slices.Clone(chosen))
			return
		}
		for _, id := range ids {
			if !slices.Contains(chosen, id) {
				choose(append(slices.Clone(chosen), id))
			}
		}
	}
	choose(nil)
}

// unmade are the tables that no call made.
func unmade() map[string]*rebal.Table {
	return map[string]*rebal.Table{"nil": nil, "plain": {}, "new": new(rebal.Table)}
}

// made is a new table.
func made(t *testing.T) *rebal.Table {
	t.Helper()
	table := rebal.Make()
	if table == nil {
		t.Fatal("Make(): nil, want a table")
	}
	return table
}

// begins begins anew where that is not to be refused, and holds if the table is settled; what was handed in is not changed.
func begins(t *testing.T, table *rebal.Table, settled bool, places []api.Place, members ...int) {
	t.Helper()
	p, m := slices.Clone(places), slices.Clone(members)
	is, e := table.Begin(places, members...)
	same(t, fmt.Sprint("Begin(", places, members, ")"), answers(is, e), answers(settled, 0))
	if !slices.Equal(p, places) || !slices.Equal(m, members) {
		t.Errorf("Begin(%v, %v): these were changed to %v, %v", p, m, places, members)
	}
}

// acks acknowledges where that is not to be refused, and holds if the table is settled.
func acks(t *testing.T, table *rebal.Table, settled bool, id int) {
	t.Helper()
	is, e := table.Ack(id)
	same(t, fmt.Sprint("Ack(", id, ")"), answers(is, e), answers(settled, 0))
}

// told is all that calls tell of a table.
func told(table *rebal.Table) string {
	owners := table.Owners()
	text := fmt.Sprint(table.Settled(), table.Gen(), owners, table.Target(), table.Waits())
	places := slices.Clone(nowhere)
	for _, o := range owners {
		places = append(places, o.Place)
	}
	for id := -1; id <= api.MaxSessions; id++ {
		text += fmt.Sprint(" ", id, table.Revoked(id))
		for _, p := range places {
			text += fmt.Sprint(" ", int(table.Has(id, p)))
		}
	}
	return text
}

// notBegun holds that a table does not begin anew, and that this changes nothing, neither in it nor in what was handed in.
func notBegun(t *testing.T, table *rebal.Table, want api.Errno, places []api.Place, members ...int) {
	t.Helper()
	was, p, m := told(table), slices.Clone(places), slices.Clone(members)
	is, e := table.Begin(places, members...)
	same(t, fmt.Sprint("Begin(", len(places), " places, ", members, ")"), answers(is, e), answers(false, want))
	same(t, "what is told behind what was refused", told(table), was)
	if !slices.Equal(p, places) || !slices.Equal(m, members) {
		t.Errorf("Begin(%v, %v): these were changed to %v, %v", p, m, places, members)
	}
}

// notAcked holds that one need not acknowledge, and that its doing so changes nothing.
func notAcked(t *testing.T, table *rebal.Table, ids ...int) {
	t.Helper()
	was := told(table)
	for _, id := range ids {
		is, e := table.Ack(id)
		same(t, fmt.Sprint("Ack(", id, ")"), answers(is, e), answers(false, api.ErrNone))
	}
	same(t, "what is told behind what was refused", told(table), was)
}

// state is what a table is to tell: its places, who has each of them, and is to have it, who must acknowledge, and its generation.
type state struct {
	places []api.Place
	owners []int
	target []int
	waits  []int
	gen    int
}

// revoked are the places that the member has, and that another one is to have.
func (s state) revoked(id int) []api.Place {
	places := []api.Place{}
	for i, p := range s.places {
		if id >= 0 && s.owners[i] == id && s.target[i] != id {
			places = append(places, p)
		}
	}
	return places
}

// has is what Has is to answer.
func (s state) has(id int, p api.Place) api.Errno {
	i := slices.Index(s.places, p)
	switch {
	case i < 0:
		return api.ErrNone
	case id < 0 || s.owners[i] != id:
		return api.ErrFence
	case s.target[i] != id:
		return api.ErrShare
	}
	return api.OK
}

// is holds all that a table tells against the state, and that it lets nobody acknowledge who need not.
func is(t *testing.T, table *rebal.Table, s state) {
	t.Helper()
	same(t, "Gen, Settled, Waits", answers(table.Gen(), table.Settled(), table.Waits()), answers(s.gen, len(s.waits) == 0, s.waits))
	same(t, "Owners", table.Owners(), owned(s.places, s.owners))
	same(t, "Target", table.Target(), owned(s.places, s.target))
	for _, id := range all() {
		same(t, fmt.Sprint("Revoked(", id, ")"), table.Revoked(id), s.revoked(id))
		for _, p := range slices.Concat(s.places, nowhere) {
			if e := table.Has(id, p); e != s.has(id, p) {
				t.Errorf("Has(%d, %v): %d, want %d", id, p, int(e), int(s.has(id, p)))
			}
		}
	}
	notAcked(t, table, slices.DeleteFunc(all(), func(id int) bool { return slices.Contains(s.waits, id) })...)
}

// settled is the state of a table in which the ids have the places.
func settled(gen int, places []api.Place, ids []int) state {
	return state{places, ids, ids, nil, gen}
}

// Example is the chapter's.
func Example() {
	places := []api.Place{{Topic: 0, Part: 0}, {Topic: 0, Part: 1}}
	t := rebal.Make()
	fmt.Println(t.Begin(places, 1))
	fmt.Println(t.Gen())
	fmt.Println(t.Begin(places, 1, 2))
	fmt.Println(t.Waits(), t.Revoked(1), t.Gen())
	fmt.Println(t.Ack(1))
	fmt.Println(t.Owners(), t.Gen())
	// Output:
	// true error 0
	// 1
	// false error 0
	// [1] [{0 1}] 1
	// true error 0
	// [{{0 0} 1} {{0 1} 2}] 2
}

// 17.1, 17.2: a new table is settled, at generation 0, and has no places.
func TestMake(t *testing.T) {
	table := made(t)
	is(t, table, settled(0, nil, nil))
	begins(t, made(t), true, placed(3), 4)
	is(t, table, settled(0, nil, nil)) // another one's places are not its own
}

// P1, rule 2: a table that no call made answers ErrNil ahead of all other errors, or zero values; nothing is done.
func TestUnmade(t *testing.T) {
	p := placed(3)
	for kind, table := range unmade() {
		for range 2 {
			for _, places := range [][]api.Place{nil, p, {p[0], p[0]}, nowhere, placed(257)} {
				for _, members := range [][]int{nil, {0}, {1, 2}, {2, 1}, {-1}, upTo(0, 9)} {
					settled, e := table.Begin(places, members...)
					same(t, kind+": Begin", answers(settled, e), answers(false, api.ErrNil))
				}
			}
			for _, id := range all() {
				settled, e := table.Ack(id)
				same(t, kind+": Ack", answers(settled, e), answers(false, api.ErrNil))
				same(t, kind+": Revoked", table.Revoked(id), "[]")
				for _, place := range slices.Concat(p, nowhere) {
					same(t, kind+": Has", int(table.Has(id, place)), int(api.ErrNil))
				}
			}
			same(t, kind+": the others", answers(table.Settled(), table.Gen(), table.Owners(), table.Target(), table.Waits()), "[false 0 [] [] []]")
		}
	}
}

// 17.1, 17.4: without members nobody has any of the places: nobody must acknowledge, whoever had them.
func TestNoMembers(t *testing.T) {
	for _, n := range []int{0, 1, 2, 9, api.MaxItems} {
		p, table := placed(n), made(t)
		begins(t, table, true, p)
		is(t, table, settled(1, p, repeat(nobody, n)))
		begins(t, table, true, p, []int{}...)
		is(t, table, settled(2, p, repeat(nobody, n)))
		begins(t, table, true, p, 3)
		is(t, table, settled(3, p, repeat(3, n)))
		begins(t, table, n < 2, p, 0, 3)
		begins(t, table, true, p)
		gen := 4
		if n < 2 {
			gen = 5
		}
		is(t, table, settled(gen, p, repeat(nobody, n)))
	}
}

// 17.1, 17.4: without places there is nothing to be acknowledged, whatever places there were; and members get what comes then.
func TestNoPlaces(t *testing.T) {
	p := placed(4)
	for _, members := range [][]int{nil, {0}, {api.MaxSessions - 1}, {3, 7}, upTo(0, api.MaxMembers), upTo(8, 16)} {
		table := made(t)
		begins(t, table, true, nil, members...)
		is(t, table, settled(1, nil, nil))
		begins(t, table, true, []api.Place{}, members...)
		is(t, table, settled(2, nil, nil))
		begins(t, table, true, p, 3)
		begins(t, table, false, p, 3, 5)
		begins(t, table, true, nil, members...)
		is(t, table, settled(4, nil, nil))
		begins(t, table, true, p[:1], 5)
		is(t, table, settled(5, p[:1], []int{5}))
	}
}

// 17.1, 17.3: one member, the first session or the last one, too, gets all at once, also of one that is a member no more; and gives what is another one's then.
func TestOneMember(t *testing.T) {
	for _, n := range []int{1, 2, 9} {
		p := placed(n)
		for id := range api.MaxSessions {
			for _, other := range []int{0, 7, api.MaxSessions - 1} {
				if other == id {
					continue
				}
				table := made(t)
				begins(t, table, true, p, id)
				is(t, table, settled(1, p, repeat(id, n)))
				begins(t, table, true, p, other)
				is(t, table, settled(2, p, repeat(other, n)))
				both := []int{min(id, other), max(id, other)}
				target := slices.Concat(repeat(other, (n+1)/2), repeat(id, n/2))
				begins(t, table, n == 1, p, both...)
				if n > 1 {
					is(t, table, state{p, repeat(other, n), target, []int{other}, 2})
					acks(t, table, true, other)
				}
				is(t, table, settled(3, p, target))
			}
		}
	}
}

// 17.1, 17.4: places that nobody has are shared at once, as share.Assign tells: no places, one, fewer than members, and up to MaxItems.
func TestFirstShares(t *testing.T) {
	for m := 1; m <= api.MaxMembers; m++ {
		for _, from := range []int{0, api.MaxSessions - m} {
			for _, n := range []int{0, 1, m - 1, m, m + 1, 31, api.MaxItems - 1, api.MaxItems} {
				p, members, table := placed(n), upTo(from, from+m), made(t)
				begins(t, table, true, p, members...)
				want, _ := share.Assign(members, p)
				same(t, "Owners, Target, Gen", answers(table.Owners(), table.Target(), table.Gen()), answers(want, want, 1))
				same(t, "Settled, Waits", answers(table.Settled(), table.Waits()), "[true []]")
			}
		}
	}
}

// 17.1, 17.2: all is told ahead of each step of a change, behind it, and between: three members give places to two that come.
func TestStepByStep(t *testing.T) {
	p, table := placed(11), made(t)
	begins(t, table, true, p, 2, 4, 6)
	had := []int{2, 2, 2, 2, 4, 4, 4, 4, 6, 6, 6}
	is(t, table, settled(1, p, had))
	begins(t, table, false, p, 0, 2, 4, 6, 15) // 11 by 5 is 2: 2 may have 3, the others 2
	target := []int{2, 2, 2, 0, 4, 4, 0, 15, 6, 6, 15}
	is(t, table, state{p, had, target, []int{2, 4, 6}, 1})
	acks(t, table, false, 4)
	is(t, table, state{p, []int{2, 2, 2, 2, 4, 4, nobody, nobody, 6, 6, 6}, target, []int{2, 6}, 1})
	acks(t, table, false, 6)
	is(t, table, state{p, []int{2, 2, 2, 2, 4, 4, nobody, nobody, 6, 6, nobody}, target, []int{2}, 1})
	acks(t, table, true, 2)
	is(t, table, settled(2, p, target))
	begins(t, table, true, p, 2, 4, 6, 15) // 0 is left out
	is(t, table, settled(3, p, []int{2, 2, 2, 4, 4, 4, 6, 15, 6, 6, 15}))
}

// 17.1, 17.6: to begin anew with what is there already, while nobody must acknowledge, changes nothing but the generation.
func TestAgainSettled(t *testing.T) {
	for _, members := range [][]int{nil, {0}, {15}, {3, 9}, upTo(4, 12)} {
		for _, n := range []int{0, 1, 7, 20} {
			p, table := placed(n), made(t)
			begins(t, table, true, p, members...)
			want := []int{}
			for _, o := range table.Owners() {
				want = append(want, o.Id)
			}
			for gen := 1; gen < 5; gen++ {
				is(t, table, settled(gen, p, want))
				begins(t, table, true, p, members...)
			}
		}
	}
}

// grown is a table in which 2 has three places, and 1 has two, and must give one each to 3 and 4 that came: generation 2.
func grown(t *testing.T, p []api.Place) *rebal.Table {
	t.Helper()
	table := made(t)
	begins(t, table, true, p[:3], 2)
	begins(t, table, true, p, 1, 2)
	is(t, table, settled(2, p, []int{2, 2, 2, 1, 1}))
	begins(t, table, false, p, 1, 2, 3, 4)
	is(t, table, state{p, []int{2, 2, 2, 1, 1}, []int{2, 2, 3, 1, 4}, []int{1, 2}, 2})
	return table
}

// 17.1, 17.6: to begin anew with what is there already, while somebody must acknowledge, begins from the owners as they are, which may give another target.
func TestAgainChanging(t *testing.T) {
	p := placed(5)
	table := grown(t, p)
	for range 3 {
		begins(t, table, false, p, 1, 2, 3, 4)
		is(t, table, state{p, []int{2, 2, 2, 1, 1}, []int{2, 2, 3, 1, 4}, []int{1, 2}, 2})
	}
	acks(t, table, false, 1)
	for range 3 { // what 1 acknowledged it does not get back
		is(t, table, state{p, []int{2, 2, 2, 1, nobody}, []int{2, 2, 3, 1, 4}, []int{2}, 2})
		begins(t, table, false, p, 1, 2, 3, 4)
	}
	acks(t, table, true, 2)
	is(t, table, settled(3, p, []int{2, 2, 3, 1, 4}))

	table = grown(t, p)
	acks(t, table, false, 2)
	is(t, table, state{p, []int{2, 2, nobody, 1, 1}, []int{2, 2, 3, 1, 4}, []int{1}, 2})
	for range 3 { // 1 has as many as 2 now, and a lesser number: it keeps both, and 2 must acknowledge again
		begins(t, table, false, p, 1, 2, 3, 4)
		is(t, table, state{p, []int{2, 2, nobody, 1, 1}, []int{2, 3, 4, 1, 1}, []int{2}, 2})
	}
	acks(t, table, true, 2)
	is(t, table, settled(3, p, []int{2, 3, 4, 1, 1}))
}

// 17.1: places that are new have no owner while the table is changing, whoever is to have them; behind it they have.
func TestNewPlaces(t *testing.T) {
	p, table := placed(6), made(t)
	begins(t, table, true, p[:2], 1)
	begins(t, table, true, p[:3], 1)
	is(t, table, settled(2, p[:3], []int{1, 1, 1}))
	places := []api.Place{p[5], p[2], p[1], p[4], p[0]}
	begins(t, table, false, places, 1, 2, 3)
	is(t, table, state{places, []int{nobody, 1, 1, nobody, 1}, []int{2, 1, 1, 2, 3}, []int{1}, 2})
	places = []api.Place{p[0], p[1], p[2], p[3], p[4], p[5]} // in another order 1 is to keep others
	begins(t, table, false, places, 1, 2, 3)
	is(t, table, state{places, []int{1, 1, 1, nobody, nobody, nobody}, []int{1, 1, 2, 2, 3, 3}, []int{1}, 2})
	acks(t, table, true, 1)
	is(t, table, settled(3, places, []int{1, 1, 2, 2, 3, 3}))
}

// 17.1: places that are no more go, the revoked ones, too; nobody has them when they come again.
func TestGonePlaces(t *testing.T) {
	p, table := placed(4), made(t)
	begins(t, table, true, p, 1)
	begins(t, table, true, p[1:2], 1)
	is(t, table, settled(2, p[1:2], []int{1}))
	begins(t, table, true, p[:3], 1, 2) // else 1 would have to give the third
	is(t, table, settled(3, p[:3], []int{1, 1, 2}))
	begins(t, table, true, p, 1)
	begins(t, table, false, p, 1, 2)
	is(t, table, state{p, repeat(1, 4), []int{1, 1, 2, 2}, []int{1}, 4})
	begins(t, table, false, p[:2], 1, 2)
	is(t, table, state{p[:2], []int{1, 1}, []int{1, 2}, []int{1}, 4})
	begins(t, table, true, p[1:2], 1, 2)
	is(t, table, settled(5, p[1:2], []int{1}))
	begins(t, table, true, nil, 1, 2)
	is(t, table, settled(6, nil, nil))
	begins(t, table, true, p, 1, 2)
	is(t, table, settled(7, p, []int{1, 1, 2, 2}))
}

// 17.1, 17.3: owners that are members no more have their places no more, and need not acknowledge; their places go at once.
func TestGoneOwners(t *testing.T) {
	p, table := placed(6), made(t)
	begins(t, table, true, p, 1, 2, 3)
	is(t, table, settled(1, p, []int{1, 1, 2, 2, 3, 3}))
	begins(t, table, true, p, 1, 3)
	is(t, table, settled(2, p, []int{1, 1, 1, 3, 3, 3}))
	begins(t, table, true, p, 0, 15)
	is(t, table, settled(3, p, []int{0, 0, 0, 15, 15, 15}))
	begins(t, table, false, p, 1, 7, 9, 15) // of 6 by 4 the ones that had more, and the least, get 2
	is(t, table, state{p, []int{nobody, nobody, nobody, 15, 15, 15}, []int{1, 1, 7, 15, 15, 9}, []int{15}, 3})
	acks(t, table, true, 15)
	is(t, table, settled(4, p, []int{1, 1, 7, 15, 15, 9}))
}

// 17.1, 17.5: places come and go, members come and go, all at once.
func TestAllAtOnce(t *testing.T) {
	p, table := placed(7), made(t)
	begins(t, table, true, p[:6], 1, 2, 3)
	is(t, table, settled(1, p[:6], []int{1, 1, 2, 2, 3, 3}))
	places := []api.Place{p[6], p[5], p[4], p[2], p[1], p[0]}
	begins(t, table, false, places, 0, 1, 3, 4, 5)
	is(t, table, state{places, []int{nobody, 3, 3, nobody, 1, 1}, []int{0, 3, 4, 5, 1, 1}, []int{3}, 1})
	acks(t, table, true, 3)
	is(t, table, settled(2, places, []int{0, 3, 4, 5, 1, 1}))
}

// 17.1, 17.3: one that must acknowledge, and is left out when it is begun anew, has nothing any more, and need not.
func TestLeftOut(t *testing.T) {
	p, table := placed(6), made(t)
	begins(t, table, true, p[:4], 1)
	begins(t, table, false, p[:4], 1, 2)
	begins(t, table, true, p[:4], 2, 3)
	is(t, table, settled(2, p[:4], []int{2, 2, 3, 3}))

	table = made(t)
	begins(t, table, true, p, 1, 2)
	begins(t, table, false, p, 1, 2, 3)
	is(t, table, state{p, []int{1, 1, 1, 2, 2, 2}, []int{1, 1, 3, 2, 2, 3}, []int{1, 2}, 1})
	begins(t, table, true, p, 2, 3) // 2 may keep all it has then
	is(t, table, settled(2, p, []int{3, 3, 3, 2, 2, 2}))
	begins(t, table, false, p, 1, 2, 3)
	is(t, table, state{p, []int{3, 3, 3, 2, 2, 2}, []int{3, 3, 1, 2, 2, 1}, []int{2, 3}, 2})
	begins(t, table, false, p, 0, 1, 2, 9) // 3 is left out, 2 must go on
	is(t, table, state{p, []int{nobody, nobody, nobody, 2, 2, 2}, []int{0, 0, 1, 2, 2, 9}, []int{2}, 2})
	acks(t, table, true, 2)
	is(t, table, settled(3, p, []int{0, 0, 1, 2, 2, 9}))
}

// 17.1, 17.5: one that was to get places, and is left out, gets none: what is not acknowledged yet is revoked no more.
func TestNotToGet(t *testing.T) {
	p, table := placed(8), made(t)
	begins(t, table, true, p, 1, 2)
	begins(t, table, false, p, 1, 2, 3)
	is(t, table, state{p, []int{1, 1, 1, 1, 2, 2, 2, 2}, []int{1, 1, 1, 3, 2, 2, 2, 3}, []int{1, 2}, 1})
	begins(t, table, true, p, 1, 2)
	is(t, table, settled(2, p, []int{1, 1, 1, 1, 2, 2, 2, 2}))
	begins(t, table, false, p, 1, 2, 3)
	acks(t, table, false, 1)
	is(t, table, state{p, []int{1, 1, 1, nobody, 2, 2, 2, 2}, []int{1, 1, 1, 3, 2, 2, 2, 3}, []int{2}, 2})
	begins(t, table, true, p, 1, 2)
	is(t, table, settled(3, p, []int{1, 1, 1, 1, 2, 2, 2, 2}))
}

// 17.1, 17.5: a member of which nothing is revoked need not acknowledge, and keeps all, while others must.
func TestNothingRevoked(t *testing.T) {
	p, table := placed(5), made(t)
	begins(t, table, true, p[:4], 5)
	begins(t, table, false, p, 5, 7)
	is(t, table, state{p, []int{5, 5, 5, 5, nobody}, []int{5, 5, 5, 7, 7}, []int{5}, 1})
	acks(t, table, true, 5)
	begins(t, table, false, p, 5, 7, 11)
	is(t, table, state{p, []int{5, 5, 5, 7, 7}, []int{5, 5, 11, 7, 7}, []int{5}, 2})
	acks(t, table, true, 5)
	is(t, table, settled(3, p, []int{5, 5, 11, 7, 7}))
}

// 17.2: places that differ in one number only, or have their numbers in turn, are not taken for one another; numbers have no upper bound.
func TestLikePlaces(t *testing.T) {
	p := []api.Place{{Topic: 1, Part: 2}, {Topic: 2, Part: 1}, {Topic: 1, Part: 1}, {Topic: math.MaxInt - 1, Part: 2}, {Topic: 2, Part: math.MaxInt - 1}, {Topic: 0, Part: 0}}
	table := made(t)
	begins(t, table, true, p, 8)
	begins(t, table, false, p, 4, 8, 9)
	is(t, table, state{p, repeat(8, 6), []int{8, 8, 4, 4, 9, 9}, []int{8}, 1})
	acks(t, table, true, 8)
	is(t, table, settled(2, p, []int{8, 8, 4, 4, 9, 9}))
}

// tables are a new one, a settled one, a changing one, and one of which one member has acknowledged.
func tables(t *testing.T) []*rebal.Table {
	t.Helper()
	p, list := placed(5), []*rebal.Table{made(t), made(t), grown(t, placed(5)), grown(t, placed(5))}
	begins(t, list[1], true, p, 3, 15)
	acks(t, list[3], false, 1)
	return list
}

// 17.1, P1, P2: members that fall, are told twice, are no sessions' numbers, or are too many, are refused; the changing table goes on as if nothing had been.
func TestNoMembersNumbers(t *testing.T) {
	p := placed(5)
	wrong := [][]int{
		{1, 0}, {15, 0}, {0, 2, 1}, {0, 1, 2, 3, 4, 5, 7, 6}, {0, 0}, {15, 15}, {0, 1, 1}, {1, 2, 1},
		upTo(0, api.MaxMembers+1), upTo(7, api.MaxSessions), upTo(0, api.MaxSessions), repeat(0, api.MaxItems+1),
	}
	for _, id := range none {
		wrong = append(wrong, []int{id}, []int{id, 3}, []int{3, id}, append(upTo(1, api.MaxMembers), id))
	}
	list := tables(t)
	for _, table := range list {
		for _, members := range wrong {
			notBegun(t, table, api.ErrArg, nil, members...)
			notBegun(t, table, api.ErrArg, p, members...)
			notBegun(t, table, api.ErrArg, []api.Place{p[0], p[0]}, members...)
			notBegun(t, table, api.ErrArg, placed(api.MaxItems), members...)
			notBegun(t, table, api.ErrLong, placed(257), members...)
		}
	}
	goesOn(t, list)
}

// 17.1, P1, P2: places that are equal, or whose topic's or partition's number is below 0.
func TestNoPlacesNumbers(t *testing.T) {
	p := placed(5)
	wrong := [][]api.Place{
		{p[0], p[0]}, {p[0], p[1], p[0]}, {p[1], p[0], p[0]}, append(placed(api.MaxItems-1), p[4]),
		{{Topic: -1, Part: 0}}, {{Topic: 0, Part: -1}}, {p[0], {Topic: math.MinInt, Part: 3}}, {{Topic: 3, Part: math.MinInt}, p[0]},
		append(placed(api.MaxItems-1), api.Place{Topic: 0, Part: -1}),
	}
	list := tables(t)
	for _, table := range list {
		for _, places := range wrong {
			for _, members := range [][]int{nil, {0}, {1, 2, 3, 4}, upTo(0, api.MaxMembers), {1, 0}} {
				notBegun(t, table, api.ErrArg, places, members...)
			}
		}
	}
	goesOn(t, list)
}

// 17.1, P1, P2: MaxItems places may be, one more may not, and this comes ahead of all else.
func TestTooManyPlaces(t *testing.T) {
	const n = api.MaxItems
	p := placed(n + 1)
	list := tables(t)
	for _, table := range list {
		for _, members := range [][]int{nil, {0}, {1, 2, 3, 4}, {-1}, {3, 3}, {16}, upTo(0, 9)} {
			for _, long := range [][]api.Place{p, slices.Repeat(p[:1], n+1), append(placed(n), nowhere[0]), slices.Repeat(p[:2], 500)} {
				notBegun(t, table, api.ErrLong, long, members...)
			}
		}
	}
	goesOn(t, list)
	table := made(t)
	begins(t, table, true, p[:n], 4)
	begins(t, table, false, p[:n], 2, 4)
	target := slices.Concat(repeat(4, n/2), repeat(2, n/2))
	is(t, table, state{p[:n], repeat(4, n), target, []int{4}, 1})
	notBegun(t, table, api.ErrLong, p, 2, 4)
	acks(t, table, true, 4)
	is(t, table, settled(2, p[:n], target))
	begins(t, table, true, p[1:], 2, 4) // the first goes, another one comes
	is(t, table, settled(3, p[1:], slices.Concat(target[1:], []int{4})))
}

// goesOn holds that the four tables are as they were, and go on as they would have.
func goesOn(t *testing.T, list []*rebal.Table) {
	t.Helper()
	p := placed(5)
	is(t, list[0], settled(0, nil, nil))
	is(t, list[1], settled(1, p, []int{3, 3, 3, 15, 15}))
	is(t, list[2], state{p, []int{2, 2, 2, 1, 1}, []int{2, 2, 3, 1, 4}, []int{1, 2}, 2})
	is(t, list[3], state{p, []int{2, 2, 2, 1, nobody}, []int{2, 2, 3, 1, 4}, []int{2}, 2})
	begins(t, list[0], true, p, 3, 15)
	begins(t, list[1], true, p, 3, 15)
	acks(t, list[2], false, 2)
	acks(t, list[2], true, 1)
	acks(t, list[3], true, 2)
	is(t, list[0], settled(1, p, []int{3, 3, 3, 15, 15}))
	is(t, list[1], settled(2, p, []int{3, 3, 3, 15, 15}))
	is(t, list[2], settled(3, p, []int{2, 2, 3, 1, 4}))
	is(t, list[3], settled(3, p, []int{2, 2, 3, 1, 4}))
}

// 17.1, P1, P2: one that need not acknowledge, has done so already, is no member, or no session, is refused, and changes nothing.
func TestNotAcked(t *testing.T) {
	list := tables(t)
	notAcked(t, list[0], all()...)
	notAcked(t, list[1], all()...)
	notAcked(t, list[2], append(slices.Clone(none), 0, 3, 4, 5, 15)...) // 3 and 4 are to get places
	notAcked(t, list[3], append(slices.Clone(none), 0, 1, 3, 4, 5, 15)...)
	goesOn(t, list)
	notAcked(t, list[2], all()...)
	notAcked(t, list[3], all()...)
}

// 17.2: Has tells of a place that there is not, of another one's, of nobody's, of the member's own, and of its revoked one.
func TestHas(t *testing.T) {
	p := placed(7)
	table := grown(t, p[:5])
	acks(t, table, false, 1)
	for _, c := range []struct {
		id   int
		p    api.Place
		want api.Errno
	}{
		{1, p[3], api.OK}, {2, p[0], api.OK}, {2, p[1], api.OK}, {2, p[2], api.ErrShare},
		{1, p[0], api.ErrFence}, {1, p[2], api.ErrFence}, {2, p[3], api.ErrFence}, {3, p[3], api.ErrFence},
		{3, p[2], api.ErrFence}, {4, p[4], api.ErrFence}, // they are to have these
		{1, p[4], api.ErrFence}, {2, p[4], api.ErrFence}, {0, p[4], api.ErrFence}, {nobody, p[4], api.ErrFence}, // nobody's
		{nobody, p[0], api.ErrFence}, {nobody, p[2], api.ErrFence}, {-2, p[4], api.ErrFence}, {math.MaxInt, p[2], api.ErrFence},
		{1, p[5], api.ErrNone}, {2, p[6], api.ErrNone}, {nobody, p[5], api.ErrNone}, {math.MinInt, nowhere[0], api.ErrNone},
	} {
		if e := table.Has(c.id, c.p); e != c.want {
			t.Errorf("Has(%d, %v): %d, want %d", c.id, c.p, int(e), int(c.want))
		}
	}
	without := made(t)
	begins(t, without, true, p)
	for _, id := range all() {
		same(t, "Has, of nobody's", answers(without.Has(id, p[0]), without.Has(id, nowhere[0])), answers(api.ErrFence, api.ErrNone))
		same(t, "Has, of no places", answers(made(t).Has(id, p[0])), answers(api.ErrNone))
	}
}

// Rule 4: what is handed out is the caller's own, with the room behind it: a change of it changes nothing in the table, whether it is settled or not.
func TestTheCallersOwn(t *testing.T) {
	for at, table := range tables(t) {
		was := told(table)
		first := []any{slices.Clone(table.Owners()), slices.Clone(table.Target()), slices.Clone(table.Revoked(2)), slices.Clone(table.Waits())}
		for range 2 {
			owners, target, revoked, waits := table.Owners(), table.Target(), table.Revoked(2), table.Waits()
			others := []any{table.Owners(), table.Target(), table.Revoked(2), table.Waits()}
			for i := range owners {
				owners[i] = api.Owner{Id: -7}
				same(t, "the target, behind a change of the owners", target[i], first[1].([]api.Owner)[i])
			}
			for i := range target {
				target[i] = api.Owner{Id: 12}
			}
			for i := range revoked {
				revoked[i] = nowhere[1]
			}
			for i := range waits {
				waits[i] = 7
			}
			_ = append(owners[:0], owned(placed(9), upTo(0, 9))...)
			_ = append(append(target, api.Owner{})[:0], owned(placed(9), upTo(0, 9))...)
			_, _ = append(revoked[:0], nowhere...), append(waits[:0], upTo(0, 16)...)
			same(t, "other answers", others, first)
			same(t, fmt.Sprint("table ", at), told(table), was)
		}
	}
	list := tables(t)
	for _, table := range list {
		clear(table.Owners())
		clear(table.Target())
	}
	goesOn(t, list)
}

// Rule 4: nothing that is handed in is kept: a change of it behind the call changes nothing.
func TestNothingKept(t *testing.T) {
	table := made(t)
	p, members := placed(5), []int{2}
	begin := func(settled bool, to ...int) {
		t.Helper()
		members = append(members[:0], to...)
		begins(t, table, settled, p, members...)
		was := told(table)
		for i := range p {
			p[i] = api.Place{Topic: 200, Part: i}
		}
		for i := range members {
			members[i] = 9
		}
		same(t, "behind a change of what was handed in", told(table), was)
		p = append(p[:0], placed(5)...)
	}
	begin(true, 2)
	begin(false, 1, 2)
	is(t, table, state{p, repeat(2, 5), []int{2, 2, 2, 1, 1}, []int{2}, 1})
	acks(t, table, true, 2)
	begin(false, 1, 2, 3, 4)
	acks(t, table, false, 2)
	acks(t, table, true, 1)
	is(t, table, settled(3, placed(5), []int{2, 2, 3, 1, 4}))
}

// 17.7, 17.4: seven members that must acknowledge do so in each order: it settles behind the last one, and is the same in the end.
func TestOrders(t *testing.T) {
	p := placed(7 * 8)
	members, want := upTo(3, 11), ""
	target := []int{}
	for id := 3; id < 10; id++ {
		target = slices.Concat(target, repeat(id, 7), []int{10})
	}
	n := 0
	orders(members[:7], func(order []int) {
		table := made(t)
		table.Begin(p, members[:7]...)
		table.Begin(p, members...)
		if want == "" {
			is(t, table, state{p, ids(share.Assign(members[:7], p)), target, members[:7], 1})
		}
		for i, id := range order {
			if settled, e := table.Ack(id); settled != (i == 6) || e != api.OK || table.Gen() != 1+i/6 || len(table.Waits()) != 6-i {
				t.Fatalf("%v: Ack(%d): %v, %d; Gen: %d; Waits: %v", order, id, settled, int(e), table.Gen(), table.Waits())
			}
		}
		if want == "" {
			is(t, table, settled(2, p, target))
			want = fmt.Sprint(table.Owners(), table.Target())
		}
		if got := fmt.Sprint(table.Owners(), table.Target()); got != want {
			t.Fatalf("%v: %s, want %s", order, got, want)
		}
		n++
	})
	same(t, "orders", n, 5040)
}

// ids are those of owners that are not to be refused.
func ids(owners []api.Owner, _ api.Errno) []int {
	list := []int{}
	for _, o := range owners {
		list = append(list, o.Id)
	}
	return list
}

// 17.6: the generation grows by one with each Begin and each Ack that tells that it is settled, and by nothing else.
func TestGen(t *testing.T) {
	p, table, gen := placed(12), made(t), 0
	grow := func(settled bool, e api.Errno) {
		t.Helper()
		if settled {
			gen++
			same(t, "the error of what settled", int(e), 0)
		}
		same(t, "Gen, Settled", answers(table.Gen(), table.Settled()), answers(gen, len(table.Waits()) == 0))
	}
	for range 3 {
		grow(table.Begin(p))
		grow(table.Begin(p, 0))
		grow(table.Begin(p, 0, 0))
		for m := 2; m <= api.MaxMembers; m++ {
			grow(table.Begin(p, upTo(0, m)...))
			grow(table.Begin(p[:m], 1, 0))
			for _, id := range all() {
				grow(table.Ack(id))
			}
			grow(table.Begin(placed(257), upTo(0, m)...))
		}
		grow(table.Begin(nil))
	}
	if gen < 20 {
		t.Errorf("it settled %d times", gen)
	}
	same(t, "Gen of a new table", made(t).Gen(), 0)
}
