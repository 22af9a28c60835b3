package share_test

import (
	"fmt"
	"math"
	"slices"
	"testing"

	"postrider/api"
	"postrider/share"
)

// The numbers that are no sessions'.
var none = []int{
	math.MinInt, math.MinInt + 1, -api.MaxOffset, -api.MaxSessions, -api.MaxMembers, -2, -1,
	api.MaxSessions, api.MaxSessions + 1, 2 * api.MaxSessions, api.MaxOffset, math.MaxInt - 1, math.MaxInt,
}

func same(t *testing.T, what string, got, want any) {
	t.Helper()
	if g, w := fmt.Sprint(got), fmt.Sprint(want); g != w {
		t.Errorf("%s: %s, want %s", what, g, w)
	}
}

// upTo are the numbers from one on, up to another one, not with it.
func upTo(from, to int) []int {
	ids := []int{}
	for id := from; id < to; id++ {
		ids = append(ids, id)
	}
	return ids
}

// placed are the first n places of a list that neither rises nor falls.
func placed(n int) []api.Place {
	places := []api.Place{}
	for i := range n {
		at := i * 85 % 257 // 85 and 257 have no common divisor, so no two are equal
		places = append(places, api.Place{Topic: at / 8, Part: at % 8})
	}
	return places
}

// owned tells that the ids have the places, one by one.
func owned(places []api.Place, ids ...int) []api.Owner {
	owners := []api.Owner{}
	for i, id := range ids {
		owners = append(owners, api.Owner{Place: places[i], Id: id})
	}
	return owners
}

// tells tells of places by where they stand, each with an id, in any order.
func tells(places []api.Place, pairs ...[2]int) []api.Owner {
	owners := []api.Owner{}
	for _, pair := range pairs {
		owners = append(owners, api.Owner{Place: places[pair[0]], Id: pair[1]})
	}
	return owners
}

// ids are the owners' ones.
func ids(owners []api.Owner) []int {
	list := []int{}
	for _, o := range owners {
		list = append(list, o.Id)
	}
	return list
}

// repeat is a number, n times.
func repeat(id, n int) []int { return slices.Repeat([]int{id}, n) }

// sets goes on with all sets of up to MaxMembers sessions among the first ones, rising.
func sets(sessions int, do func([]int)) {
	for set := range 1 << sessions {
		members := []int{}
		for id := range sessions {
			if set>>id&1 == 1 {
				members = append(members, id)
			}
		}
		if len(members) <= api.MaxMembers {
			do(members)
		}
	}
}

// assigned is what Assign answers of what is not to be refused, held against what follows (16.3 to 16.5); what was handed in is not changed.
func assigned(t *testing.T, members []int, places []api.Place, was ...api.Owner) []api.Owner {
	t.Helper()
	m, p, w := slices.Clone(members), slices.Clone(places), slices.Clone(was)
	now, e := share.Assign(members, places, was...)
	if e != api.OK {
		t.Fatalf("Assign(%v, %v, %v): %d, want 0", members, places, was, int(e))
	}
	if !slices.Equal(m, members) || !slices.Equal(p, places) || !slices.Equal(w, was) {
		t.Fatalf("Assign(%v, %v, %v): these were changed to %v, %v, %v", m, p, w, members, places, was)
	}
	if b := broken(members, places, was, now); b != "" {
		t.Fatalf("Assign(%v, %v, %v): %v: %s", members, places, was, now, b)
	}
	return now
}

// holds holds which ids Assign gives the places to.
func holds(t *testing.T, members []int, places []api.Place, was []api.Owner, want ...int) {
	t.Helper()
	same(t, fmt.Sprint("Assign(", members, ", ", places, ", ", was, ")"), ids(assigned(t, members, places, was...)), want)
}

// refused holds that Assign refuses, hands out no owners, and changes nothing.
func refused(t *testing.T, want api.Errno, members []int, places []api.Place, was ...api.Owner) {
	t.Helper()
	m, p, w := slices.Clone(members), slices.Clone(places), slices.Clone(was)
	now, e := share.Assign(members, places, was...)
	if e != want || len(now) > 0 {
		t.Errorf("Assign(%v, %d places, %d owners): %v, %d, want none, %d", members, len(places), len(was), now, int(e), want)
	}
	if !slices.Equal(m, members) || !slices.Equal(p, places) || !slices.Equal(w, was) {
		t.Errorf("what was handed in is changed: %v, %v, %v", members, places, was)
	}
}

// Example is the chapter's.
func Example() {
	places := []api.Place{{Topic: 0, Part: 0}, {Topic: 0, Part: 1}, {Topic: 0, Part: 2}}
	now, err := share.Assign([]int{1, 2}, places)
	fmt.Println(now, err)
	now, err = share.Assign([]int{0, 1, 2}, places, now...)
	fmt.Println(now, err)
	// Output:
	// [{{0 0} 1} {{0 1} 1} {{0 2} 2}] error 0
	// [{{0 0} 1} {{0 1} 0} {{0 2} 2}] error 0
}

// 16.1, 16.3: without members nobody has any of the places, who ever had them.
func TestNoMembers(t *testing.T) {
	for _, n := range []int{0, 1, 2, 9, api.MaxItems} {
		places := placed(n)
		for _, members := range [][]int{nil, {}} {
			holds(t, members, places, nil, repeat(-1, n)...)
			holds(t, members, places, owned(places, repeat(0, n)...), repeat(-1, n)...)
			holds(t, members, places, owned(places, repeat(-1, n)...), repeat(-1, n)...)
			holds(t, members, places, owned(places, repeat(-2, n)...), repeat(-1, n)...)
		}
	}
}

// 16.1, 16.3: without places nobody gets any, whatever is told of others.
func TestNoPlaces(t *testing.T) {
	for _, members := range [][]int{nil, {0}, {api.MaxSessions - 1}, upTo(0, api.MaxMembers)} {
		for _, was := range [][]api.Owner{nil, {}, owned(placed(3), 0, 1, 15), owned(placed(api.MaxItems), repeat(0, api.MaxItems)...)} {
			holds(t, members, nil, was)
			holds(t, members, []api.Place{}, was)
		}
	}
}

// 16.1, 16.3: one member, the first session or the last one, gets all, whoever had them.
func TestOneMember(t *testing.T) {
	for _, n := range []int{1, 2, 9, api.MaxItems} {
		places := placed(n)
		for id := range api.MaxSessions {
			for _, had := range []int{-1, 0, id, api.MaxSessions - 1, api.MaxSessions} {
				holds(t, []int{id}, places, owned(places, repeat(had, n)...), repeat(id, n)...)
			}
			holds(t, []int{id}, places, nil, repeat(id, n)...)
		}
	}
}

// 16.1, 16.4: places that nobody had go in blocks, the members of the least numbers having one more where they do not divide evenly: fewer places than members, as many, one more, and MaxItems.
func TestNobodysPlaces(t *testing.T) {
	for m := 1; m <= api.MaxMembers; m++ {
		for _, from := range []int{0, api.MaxSessions - m} {
			members := upTo(from, from+m)
			for n := range api.MaxItems + 1 {
				want := []int{}
				for i, id := range members {
					want = append(want, repeat(id, (n+m-1-i)/m)...)
				}
				places := placed(n)
				holds(t, members, places, nil, want...)
				if n < 20 || n > api.MaxItems-3 {
					holds(t, members, places, owned(places, repeat(-1, n)...), want...)
					holds(t, members, places, owned(placed(api.MaxItems)[n:], repeat(from, api.MaxItems-n)...), want...)
				}
			}
		}
	}
}

// 16.1: with places that do not divide evenly, the members that had more of them ahead get one more; of as many the lesser numbers.
func TestWhoGetsOneMore(t *testing.T) {
	p := placed(12)
	holds(t, []int{3, 5}, p[:1], owned(p, 5), 5)
	holds(t, []int{3, 5}, p[:1], owned(p, 3), 3)
	holds(t, []int{3, 5}, p[:1], nil, 3)
	holds(t, []int{3, 5}, p[:3], owned(p, -1, 5), 3, 5, 5)
	holds(t, []int{3, 5}, p[:3], owned(p, 3, 5, 5), 3, 5, 5)
	holds(t, []int{3, 5}, p[:3], owned(p, 5, 3), 5, 3, 3)    // as many: the lesser number
	holds(t, []int{3, 5}, p[:3], owned(p, 5, 3, 9), 5, 3, 3) // who is no member counts as nobody
	holds(t, []int{3, 5}, p[:3], owned(p, 5, 5, 5), 5, 5, 3) // all
	holds(t, []int{0, 7, 15}, p[:5], owned(p, 15, 15, 7), 15, 15, 7, 0, 7)
	holds(t, []int{0, 7, 15}, p[:5], owned(p, 15, 7, 15, 7), 15, 7, 15, 7, 0)
	holds(t, []int{0, 7, 15}, p[:4], owned(p, 15, 7, 15, 7), 15, 7, 0, 7)
	holds(t, []int{0, 7, 15}, p[:4], owned(p, 15, 7, 15, 0), 15, 7, 15, 0)
	holds(t, []int{0, 7, 15}, p[:7], owned(p, 7, 15, 7, 15, 0), 7, 15, 7, 15, 0, 0, 7)
	holds(t, upTo(0, 8), p[:9], owned(p, 6, 6, 6), 6, 6, 0, 1, 2, 3, 4, 5, 7)
	holds(t, upTo(0, 8), p[:7], owned(p, 7), 7, 0, 1, 2, 3, 4, 5)
	holds(t, upTo(0, 8), p[:7], owned(p, 7, 7, 6, 6), 7, 0, 6, 1, 2, 3, 4)
	// what counts are the places that there are, not those that are told of
	holds(t, []int{3, 5}, p[:3], owned([]api.Place{p[5], p[6], p[7], p[1]}, 5, 5, 5, 3), 3, 3, 5)
}

// 16.1: each keeps the first places that it had, in the order of the places, not in that of the owners, as many as its quota.
func TestKeepsTheFirst(t *testing.T) {
	p := placed(6)
	holds(t, []int{1, 2}, p, owned(p, 1, 1, 1, 1, 1, 1), 1, 1, 1, 2, 2, 2)
	holds(t, []int{1, 2}, p, owned(p, 2, 2, 2, 2, 2, 2), 2, 2, 2, 1, 1, 1)
	holds(t, []int{1, 2}, p, owned(p, 2, 1, 2, 2, 1, 2), 2, 1, 2, 2, 1, 1)
	for _, order := range [][]int{{5, 4, 3, 2, 1, 0}, {3, 0, 5, 1, 4, 2}} {
		was := []api.Owner{}
		for _, at := range order {
			was = append(was, api.Owner{Place: p[at], Id: 2})
		}
		holds(t, []int{1, 2}, p, was, 2, 2, 2, 1, 1, 1)
	}
	turned := slices.Clone(p)
	slices.Reverse(turned)
	holds(t, []int{1, 2}, turned, owned(p, 2, 2, 2, 2, 2, 2), 2, 2, 2, 1, 1, 1)
}

// 16.1: the other places go in order to the member of the least number that has fewer than its quota then.
func TestTheOthers(t *testing.T) {
	p := placed(12)
	holds(t, []int{1, 2, 4}, p[:9], owned(p, 2, -1, 4, 9, 2, 4, 2, 4), 2, 1, 4, 1, 2, 4, 2, 4, 1)
	holds(t, []int{1, 2, 4}, p[:9], owned(p, -1, -1, -1, -1, 1, 2, 4, 4), 1, 1, 2, 2, 1, 2, 4, 4, 4)
	holds(t, []int{1, 2, 4}, p[:9], owned(p, 4, 4, 4, 4, 4, 4, 4, 4, 4), 4, 4, 4, 1, 1, 1, 2, 2, 2)
	holds(t, []int{1, 2, 4}, p[:9], owned(p, 8, 8, 8, 8, 2, 2, 2, 2, 2), 1, 1, 1, 4, 2, 2, 2, 4, 4)
}

// 16.1: who is no member counts as nobody, whatever its number.
func TestOwnersThatAreNoMembers(t *testing.T) {
	p := placed(5)
	for _, id := range slices.Concat(none, []int{0, 4, 6, 8, 15}) {
		holds(t, []int{3, 5, 7}, p, owned(p, id, 7, id, id, id), 3, 7, 3, 5, 7)
		holds(t, []int{3, 5, 7}, p, owned(p, id, id, id, id, id), 3, 3, 5, 5, 7)
	}
}

// 16.1: of a place that several tell of the first one counts, also if it is nobody, or no member.
func TestTheFirstThatTells(t *testing.T) {
	p := placed(3)
	for _, c := range []struct {
		told []int // each tells of the second place
		want int
	}{{[]int{5, 3}, 5}, {[]int{3, 5}, 3}, {[]int{-1, 5}, 3}, {[]int{9, 5}, 3}, {[]int{-9, 5, 5}, 3}, {[]int{5, -1}, 5}, {[]int{5, 9, 3, 3}, 5}, {[]int{5, 5, 3}, 5}} {
		was := []api.Owner{}
		for _, id := range c.told {
			was = append(was, api.Owner{Place: p[1], Id: id})
		}
		now := assigned(t, []int{3, 5}, p[1:2], was...)
		same(t, fmt.Sprint("one place, told of by ", c.told), ids(now), []int{c.want})
	}
	// what a later one tells does not count among what a member had either
	holds(t, []int{3, 5}, p, tells(p, [2]int{0, 3}, [2]int{1, 5}, [2]int{0, 5}, [2]int{0, 5}), 3, 5, 3)
}

// 16.1, P1: owners may tell of places that there are not, even of such that may not be.
func TestOwnersOfOtherPlaces(t *testing.T) {
	p := placed(4)
	for _, other := range []api.Place{{Topic: -1, Part: 0}, {Topic: 0, Part: -1}, {Topic: math.MinInt, Part: math.MinInt}, {Topic: math.MaxInt, Part: math.MaxInt}, placed(5)[4], {Topic: p[1].Part, Part: p[1].Topic}} {
		was := []api.Owner{{Place: other, Id: 5}, {Place: p[1], Id: 5}, {Place: other, Id: 3}}
		holds(t, []int{3, 5}, p, was, 3, 5, 3, 5)
	}
}

// 16.1: places' numbers have no upper bound, and topics are not told from parts by their sums.
func TestGreatPlaces(t *testing.T) {
	p := []api.Place{{Topic: math.MaxInt, Part: math.MaxInt}, {Topic: 0, Part: math.MaxInt}, {Topic: math.MaxInt, Part: 0}, {Topic: 1, Part: 2}, {Topic: 2, Part: 1}, {Topic: 0, Part: 0}}
	holds(t, []int{1, 2}, p, nil, 1, 1, 1, 2, 2, 2)
	holds(t, []int{1, 2}, p, owned(p, 2, 1, 2, 1, 2, 1), 2, 1, 2, 1, 2, 1)
}

// 16.1, P1, P2: members that fall, are told twice, are no sessions' numbers, or are too many.
func TestNoMembersNumbers(t *testing.T) {
	p := placed(3)
	wrong := [][]int{
		{1, 0}, {15, 0}, {0, 2, 1}, {1, 2, 0}, {7, 6, 5, 4, 3, 2, 1, 0}, {0, 1, 2, 3, 4, 5, 7, 6},
		{0, 0}, {3, 3}, {15, 15}, {0, 1, 1}, {0, 0, 1}, {1, 2, 1}, repeat(4, api.MaxMembers),
		upTo(0, api.MaxMembers+1), upTo(7, api.MaxSessions), upTo(0, api.MaxSessions), upTo(0, api.MaxSessions+1), repeat(0, api.MaxItems+1),
	}
	for _, id := range none {
		wrong = append(wrong, []int{id}, []int{id, 3}, []int{3, id}, []int{0, id, 15}, append(upTo(1, api.MaxMembers), id))
	}
	for _, members := range wrong {
		refused(t, api.ErrArg, members, nil)
		refused(t, api.ErrArg, members, p)
		refused(t, api.ErrArg, members, p, owned(p, 0, 3, 15)...)
		refused(t, api.ErrArg, members, placed(api.MaxItems), owned(placed(api.MaxItems), repeat(3, api.MaxItems)...)...)
		refused(t, api.ErrLong, members, placed(257))
		refused(t, api.ErrLong, members, nil, owned(placed(257), repeat(3, 257)...)...)
	}
	sets(api.MaxSessions, func(members []int) { // all others may be
		if now, e := share.Assign(members, p); len(now) != len(p) || e != api.OK {
			t.Fatalf("Assign(%v, three places): %v, %d", members, now, int(e))
		}
	})
}

// 16.1, P1, P2: places that are equal, next to each other or far apart, or whose topic's or partition's number is below 0.
func TestNoPlacesNumbers(t *testing.T) {
	for _, members := range [][]int{nil, {0}, upTo(0, api.MaxMembers), {1, 0}} {
		for _, n := range []int{2, 3, 9, api.MaxItems} {
			for _, at := range [][2]int{{0, 1}, {0, n - 1}, {n - 2, n - 1}, {n / 2, 0}} {
				p := placed(n)
				p[at[0]] = p[at[1]]
				if at[0] != at[1] {
					refused(t, api.ErrArg, members, p)
					refused(t, api.ErrArg, members, p, owned(p, 0, 0)...)
				}
			}
		}
		for _, wrong := range []api.Place{{Topic: -1, Part: 0}, {Topic: 0, Part: -1}, {Topic: -1, Part: -1}, {Topic: math.MinInt, Part: 3}, {Topic: 3, Part: math.MinInt}, {Topic: -1, Part: math.MaxInt}} {
			for _, n := range []int{1, 2, 9, api.MaxItems} {
				for _, at := range []int{0, n / 2, n - 1} {
					p := placed(n)
					p[at] = wrong
					refused(t, api.ErrArg, members, p)
					refused(t, api.ErrArg, members, p, owned(p, repeat(0, n)...)...)
				}
			}
		}
	}
}

// 16.1, P1, P2: MaxItems places and owners may be, one more of each may not, and this comes ahead of all else.
func TestTooMany(t *testing.T) {
	const n = api.MaxItems
	p := placed(n + 1)
	holds(t, []int{2, 4}, p[:n], owned(p, repeat(4, n)...), slices.Concat(repeat(4, n/2), repeat(2, n/2))...)
	twice := slices.Concat(owned(p, repeat(4, n/2)...), owned(p, repeat(2, n/2)...))
	holds(t, []int{2, 4}, p[:n], twice, slices.Concat(repeat(4, n/2), repeat(2, n/2))...)
	holds(t, []int{2, 4}, p[:2], slices.Repeat(owned(p, 4), n), 4, 2)
	equal := slices.Repeat(p[:1], n+1)
	below := append(slices.Clone(p[:n]), api.Place{Topic: -1})
	for _, members := range [][]int{nil, {0}, {-1}, {3, 3}, {16}, upTo(0, 9)} {
		for _, long := range [][]api.Place{p, equal, below, placed(257), slices.Repeat(p[:2], 500)} {
			refused(t, api.ErrLong, members, long)
			refused(t, api.ErrLong, members, long, owned(p, 4)...)
			refused(t, api.ErrLong, members, long, slices.Repeat(owned(p, 4), n+1)...)
		}
		for _, few := range [][]api.Place{nil, p[:1], p[:n], equal[:2], below[n:]} {
			refused(t, api.ErrLong, members, few, slices.Repeat(owned(p, 4), n+1)...)
			refused(t, api.ErrLong, members, few, owned(p, repeat(-1, n+1)...)...)
			refused(t, api.ErrLong, members, few, slices.Repeat(owned(p, 4), 1000)...)
		}
	}
}

// 16.2: Of answers the places that the id has, in order, each once: those of which it is the first that tells.
func TestOf(t *testing.T) {
	p := placed(6)
	was := owned(p, 1, 2, 1, -1, 2, 1)
	for _, c := range []struct {
		owners []api.Owner
		id     int
		want   []api.Place
	}{
		{nil, 0, nil},
		{[]api.Owner{}, -1, nil},
		{was, 1, []api.Place{p[0], p[2], p[5]}},
		{was, 2, []api.Place{p[1], p[4]}},
		{was, -1, []api.Place{p[3]}},
		{was, 0, nil},
		{was, 3, nil},
		{was, math.MaxInt, nil},
		{owned(p, -7, math.MaxInt, math.MinInt, -7), -7, []api.Place{p[0], p[3]}},
		{owned(p, -7, math.MaxInt, math.MinInt, -7), math.MaxInt, p[1:2]},
		{tells(p, [2]int{0, 1}, [2]int{0, 2}, [2]int{1, 2}, [2]int{0, 1}, [2]int{1, 1}), 1, p[:1]},
		{tells(p, [2]int{0, 1}, [2]int{0, 2}, [2]int{1, 2}, [2]int{0, 1}, [2]int{1, 1}), 2, p[1:2]},
		{owned([]api.Place{{Topic: -3, Part: math.MinInt}}, 1), 1, []api.Place{{Topic: -3, Part: math.MinInt}}},
		{owned(placed(257), repeat(5, 257)...), 5, placed(257)},
		{slices.Repeat(was, 1000), 2, []api.Place{p[1], p[4]}},
	} {
		before := slices.Clone(c.owners)
		same(t, fmt.Sprint("Of(", c.id, ")"), share.Of(c.owners, c.id), c.want)
		same(t, "the owners behind Of", c.owners, before)
	}
}

// 16.2: Moved answers the places that somebody had, and another one has now; a place that nobody had, or that is not told of, did not move.
func TestMoved(t *testing.T) {
	p := placed(6)
	for _, c := range []struct {
		was, now []api.Owner
		want     []api.Place
	}{
		{nil, nil, nil},
		{nil, owned(p, 1, 2, 3), nil},
		{owned(p, 1, 2, 3), nil, nil},
		{owned(p, 1, 2, 3), owned(p, 1, 2, 3), nil},
		{owned(p, 1, 2, 3), owned(p, 3, 2, 1), []api.Place{p[0], p[2]}},
		{owned(p, 0, 0), owned(p, 0, 1), p[1:2]},
		{owned(p, 0, 0), owned(p, 1, 0), p[:1]},
		{owned(p, -1, 1, -1), owned(p, 1, -1, -1), p[1:2]}, // from nobody, to nobody, and neither
		{owned(p, -2, math.MinInt, -1), owned(p, 1, 2, -2), nil},
		{owned(p, math.MaxInt), owned(p, 0), p[:1]},
		{owned(p, 16, 16), owned(p, 16, 15), p[1:2]},
		{owned(p, 1, 1, 1, 1, 1, 1), tells(p, [2]int{4, 2}, [2]int{0, 2}, [2]int{2, 1}, [2]int{1, 2}), []api.Place{p[4], p[0], p[1]}},
		{tells(p, [2]int{0, 1}, [2]int{0, 2}, [2]int{1, -1}, [2]int{1, 2}), owned(p, 2, 1), p[:1]},
		{tells(p, [2]int{0, 1}, [2]int{0, 2}, [2]int{1, 2}, [2]int{1, 1}), owned(p, 1, 2), nil},
		{owned(p, 1, 2), tells(p, [2]int{0, 1}, [2]int{0, 2}, [2]int{1, 1}, [2]int{1, 2}, [2]int{1, 1}), p[1:2]},
		{owned([]api.Place{{Topic: 1, Part: 2}}, 1), owned([]api.Place{{Topic: 2, Part: 1}}, 2), nil},
		{owned(placed(257), repeat(5, 257)...), owned(placed(257), repeat(6, 257)...), placed(257)},
	} {
		was, now := slices.Clone(c.was), slices.Clone(c.now)
		same(t, fmt.Sprint("Moved(", c.was, ", ", c.now, ")"), share.Moved(c.was, c.now), c.want)
		same(t, "the owners behind Moved", fmt.Sprint(c.was, c.now), fmt.Sprint(was, now))
	}
}

// 16.2: Even answers how far apart members are, also such that have nothing, and such that may not be; who is no member does not count.
func TestEven(t *testing.T) {
	p := placed(6)
	was := owned(p, 1, 2, 1, -1, 2, 1)
	for _, c := range []struct {
		members []int
		owners  []api.Owner
		want    int
	}{
		{nil, nil, 0},
		{nil, was, 0},
		{[]int{}, was, 0},
		{[]int{1}, nil, 0},
		{[]int{1}, was, 0},
		{[]int{0}, was, 0},
		{[]int{1, 2}, nil, 0},
		{[]int{1, 2}, was, 1},
		{[]int{2, 1}, was, 1},
		{[]int{2, 1, 2}, was, 1},
		{[]int{0, 1}, was, 3},
		{[]int{0, 2}, was, 2},
		{[]int{0, 3}, was, 0},
		{[]int{1, 2, 3}, was, 3},
		{[]int{3, 2, 1}, was, 3},
		{[]int{2, 3, 1}, was, 3},
		{upTo(0, api.MaxSessions+1), was, 3},
		{[]int{-1, 2}, was, 1},
		{[]int{math.MinInt, math.MaxInt}, owned(p, math.MaxInt, 0, math.MaxInt), 2},
		{[]int{0, 1}, owned(p, 0, 0, 0, 1, 2, 2), 2},
		{[]int{1, 2}, tells(p, [2]int{0, 1}, [2]int{0, 2}, [2]int{0, 2}, [2]int{1, 2}, [2]int{0, 1}, [2]int{1, 1}), 0},
		{[]int{1, 2}, slices.Repeat(was, 1000), 1},
		{[]int{4, 5}, owned(placed(257), repeat(5, 257)...), 257},
	} {
		before := fmt.Sprint(c.members, c.owners)
		same(t, fmt.Sprint("Even(", c.members, ")"), share.Even(c.members, c.owners...), c.want)
		same(t, "what was handed to Even", fmt.Sprint(c.members, c.owners), before)
	}
}

// 16.5, 16.4: one that joins gets its quota, and nothing else moves; of one that leaves just its places move.
func TestJoinsAndLeaves(t *testing.T) {
	places := placed(24)
	now := assigned(t, []int{5}, places)
	for m := 2; m <= api.MaxMembers; m++ {
		members := upTo(5, 5+m)
		next := assigned(t, members, places, now...)
		same(t, fmt.Sprint("moved, as ", 4+m, " joins"), len(share.Moved(now, next)), 24/m)
		same(t, "places of the one that joined", len(share.Of(next, 4+m)), 24/m)
		now = next
	}
	for m := api.MaxMembers - 1; m >= 1; m-- {
		out := 5 + api.MaxMembers - 1 - m
		next := assigned(t, upTo(out+1, 5+api.MaxMembers), places, now...)
		same(t, fmt.Sprint("moved, as ", out, " leaves"), fmt.Sprint(share.Moved(now, next)), fmt.Sprint(share.Of(now, out)))
		same(t, "even", share.Even(upTo(out+1, 5+api.MaxMembers), next...) <= 1, true)
		now = next
	}
}

// Rule 4: what is handed out is the caller's own, with the room behind it, and nothing that is handed in is kept.
func TestTheCallersOwn(t *testing.T) {
	members, places := []int{1, 2}, placed(5)
	was := owned(places, 2, 2, 2, 2, 2)
	first := assigned(t, members, places, was...)
	want := fmt.Sprint(first)
	second := assigned(t, members, places, was...)
	of, moved := share.Of(second, 2), share.Moved(was, second)
	wantOf, wantMoved := fmt.Sprint(of), fmt.Sprint(moved)
	for i := range first {
		first[i] = api.Owner{Id: -7}
	}
	_ = append(first[:1], owned(places, 9, 9, 9)...)
	same(t, "another answer", second, want)
	for i := range places {
		places[i], was[i], second[i] = api.Place{Topic: 90, Part: 9}, api.Owner{Id: 9}, api.Owner{Id: 8}
	}
	members[0] = 9
	same(t, "Of, behind a change of what it was handed", of, wantOf)
	same(t, "Moved, behind a change of what it was handed", moved, wantMoved)
	places, was = placed(5), owned(placed(5), 2, 2, 2, 2, 2)
	for i := range of {
		of[i], moved[i%len(moved)] = api.Place{}, api.Place{}
	}
	same(t, "asked again", assigned(t, []int{1, 2}, places, was...), want)
}
