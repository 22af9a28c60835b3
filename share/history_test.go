package share_test

import (
	"fmt"
	"slices"
	"testing"

	"postrider/api"
	"postrider/share"
)

// hadBy is who the document says had the place: the first that tells of it, if it is a member.
func hadBy(members []int, place api.Place, was []api.Owner) int {
	at := slices.IndexFunc(was, func(o api.Owner) bool { return o.Place == place })
	if at < 0 || !slices.Contains(members, was[at].Id) {
		return -1
	}
	return was[at].Id
}

// sheet is what the document's words say of each session, none of it in a list of members: how many places it had, may have, and has.
type sheet struct{ had, quota, has [api.MaxSessions]int }

// before asks if one member is ahead of another one in the order of those that had more.
func (s *sheet) before(a, b int) bool { return s.had[a] > s.had[b] || s.had[a] == s.had[b] && a < b }

// deal counts quotas by dealing the places out one by one, round and round, those ahead first.
func (s *sheet) deal(members []int, n int) {
	round := make([]int, len(members))
	for _, id := range members {
		at := 0
		for _, other := range members {
			if s.before(other, id) {
				at++
			}
		}
		round[at] = id
	}
	for i := 0; i < n && len(members) > 0; i++ {
		s.quota[round[i%len(members)]]++
	}
}

// shares are the ids that the document says have the places.
func shares(members []int, places []api.Place, was []api.Owner) []int {
	s, list := &sheet{}, repeat(-1, len(places))
	had := make([]int, len(places))
	for i, p := range places {
		had[i] = hadBy(members, p, was)
		if had[i] >= 0 {
			s.had[had[i]]++
		}
	}
	s.deal(members, len(places))
	for i, id := range had {
		if id >= 0 && s.has[id] < s.quota[id] {
			list[i] = id
			s.has[id]++
		}
	}
	for i := range list {
		for id := 0; id < api.MaxSessions && list[i] < 0; id++ {
			if s.has[id] < s.quota[id] {
				list[i] = id
				s.has[id]++
			}
		}
	}
	return list
}

// broken tells what of 16.3 to 16.5 the owners are not as; "": nothing.
func broken(members []int, places []api.Place, was, now []api.Owner) string {
	if len(now) != len(places) {
		return "16.3: not each place has one owner"
	}
	has, before := map[int]int{}, map[int]int{}
	for i, p := range places {
		if now[i].Place != p {
			return "16.1: not in the order of the places"
		}
		if len(members) == 0 && now[i].Id != -1 || len(members) > 0 && !slices.Contains(members, now[i].Id) {
			return "16.3: an owner is no member"
		}
		has[now[i].Id]++
		before[hadBy(members, p, was)]++
	}
	if len(members) == 0 {
		return ""
	}
	least := len(places) / len(members)
	for _, id := range members {
		if has[id] < least || has[id] > least+1 {
			return fmt.Sprint("16.4: ", id, " has ", has[id], " places")
		}
	}
	for i, p := range places {
		if id := hadBy(members, p, was); id >= 0 && before[id] <= least && now[i].Id != id {
			return fmt.Sprint("16.5: ", id, " had no more than the least quota, and lost a place")
		}
	}
	again, e := share.Assign(members, places, now...)
	if e != api.OK || !slices.Equal(again, now) {
		return fmt.Sprint("16.5: assigned again: ", again, int(e))
	}
	return ""
}

// told is what Of, Moved and Even are to tell of all owners, by each that is first to tell of its place.
func told(t *testing.T, members []int, was, now []api.Owner) {
	t.Helper()
	has, moved := map[int][]api.Place{}, []api.Place{}
	for i, o := range now {
		if slices.ContainsFunc(now[:i], func(other api.Owner) bool { return other.Place == o.Place }) {
			continue
		}
		has[o.Id] = append(has[o.Id], o.Place)
		at := slices.IndexFunc(was, func(other api.Owner) bool { return other.Place == o.Place })
		if at >= 0 && was[at].Id >= 0 && was[at].Id != o.Id {
			moved = append(moved, o.Place)
		}
	}
	counts := []int{}
	for _, id := range members {
		counts = append(counts, len(has[id]))
	}
	even := 0
	if len(members) > 0 {
		even = slices.Max(counts) - slices.Min(counts)
	}
	for id := -2; id <= api.MaxSessions; id++ {
		if of := share.Of(now, id); !slices.Equal(of, has[id]) {
			t.Fatalf("Of(%v, %d): %v, want %v", now, id, of, has[id])
		}
	}
	if got := share.Moved(was, now); !slices.Equal(got, moved) {
		t.Fatalf("Moved(%v, %v): %v, want %v", was, now, got, moved)
	}
	if got := share.Even(members, now...); got != even {
		t.Fatalf("Even(%v, %v): %d, want %d", members, now, got, even)
	}
}

// 16.1, 16.3 to 16.5: all owners of up to five places, from those that are not told of, nobody, four sessions and one that is never a member, are assigned to all sets of members as the document's words say.
func TestAllOwners(t *testing.T) {
	var all [][]int
	sets(4, func(members []int) { all = append(all, members) })
	from := []int{-2, -1, 0, 1, 2, 3, 11} // -2: not told of
	for n := range 6 {
		places, count := placed(n), 1
		for range n {
			count *= len(from)
		}
		for code := range count { // its digits are the owners
			was := []api.Owner{}
			for i, rest := 0, code; i < n; i, rest = i+1, rest/len(from) {
				if id := from[rest%len(from)]; id > -2 {
					was = append(was, api.Owner{Place: places[i], Id: id})
				}
			}
			for _, members := range all {
				if now := assigned(t, members, places, was...); !slices.Equal(ids(now), shares(members, places, was)) {
					t.Fatalf("Assign(%v, %v, %v): %v, want %v", members, places, was, ids(now), shares(members, places, was))
				}
			}
		}
	}
}

// 16.1: all lists of up to four owners that tell of three places, and of one that there is not, in any order and several times, are assigned to all sets of three members as the document's words say.
func TestAllTellings(t *testing.T) {
	places := placed(4)
	tellings := []api.Owner{}
	for _, p := range places {
		for _, id := range []int{-1, 0, 1, 2} {
			tellings = append(tellings, api.Owner{Place: p, Id: id})
		}
	}
	var tell func(was []api.Owner)
	tell = func(was []api.Owner) {
		sets(3, func(members []int) {
			now, e := share.Assign(members, places[:3], was...)
			if want := shares(members, places[:3], was); e != api.OK || !slices.Equal(ids(now), want) {
				t.Fatalf("Assign(%v, %v, %v): %v, %d, want %v", members, places[:3], was, ids(now), int(e), want)
			}
		})
		if len(was) < 3 {
			told(t, []int{0, 2}, was, tellings[len(was):len(was)*5])
			told(t, []int{1, 0}, tellings[2:9], was)
		}
		if len(was) < 4 {
			for _, o := range tellings {
				tell(append(was[:len(was):len(was)], o))
			}
		}
	}
	tell(nil)
}

// rule goes on from seed to seed, the same way each time.
type rule struct{ seed uint32 }

// below is the rule's next number from 0 on, less than n.
func (r *rule) below(n int) int {
	r.seed = r.seed*1664525 + 1013904223
	return int(r.seed>>8) % n
}

// shuffled is a list in the order that the rule says.
func shuffled[T any](r *rule, list []T) []T {
	for i := len(list) - 1; i > 0; i-- {
		j := r.below(i + 1)
		list[i], list[j] = list[j], list[i]
	}
	return list
}

// some are up to n members, rising.
func (r *rule) some(n int) []int {
	members := shuffled(r, upTo(0, api.MaxSessions))[:r.below(n+1)]
	slices.Sort(members)
	return members
}

// owners are up to MaxItems owners of some of the places, in no order; some places are told of twice, and some ids are no sessions'.
func (r *rule) owners(places []api.Place) []api.Owner {
	owners := []api.Owner{}
	few := 1 + r.below(api.MaxSessions+2)
	for range r.below(api.MaxItems + 1) {
		owners = append(owners, api.Owner{Place: places[r.below(len(places))], Id: r.below(few) - 1})
	}
	return owners
}

// 16.1 to 16.5: members, up to MaxItems places, and owners by a fixed rule are assigned, and told of, as the document's words say.
func TestByRule(t *testing.T) {
	r := &rule{seed: 16}
	most := 0
	for range 1200 {
		known := shuffled(r, placed(257))
		n := min(r.below(300), api.MaxItems)
		if r.below(2) == 0 {
			n = r.below(20)
		}
		places := slices.Clone(known[:n])
		members, was := r.some(api.MaxMembers), r.owners(known[:min(257, n+1+r.below(9))])
		now := assigned(t, members, places, was...)
		if want := shares(members, places, was); !slices.Equal(ids(now), want) {
			t.Fatalf("Assign(%v, %v, %v): %v, want %v", members, places, was, ids(now), want)
		}
		told(t, members, was, now)
		told(t, r.some(api.MaxSessions), now, was)
		most = max(most, n)
	}
	same(t, "the most places", most, api.MaxItems)
}

// held are how many of the places the member had.
func held(id int, places []api.Place, was []api.Owner) int {
	n := 0
	for _, p := range places {
		if slices.Contains(was, api.Owner{Place: p, Id: id}) {
			n++
		}
	}
	return n
}

// lost are how many of the places the member had, and has no more.
func lost(id int, places []api.Place, was, now []api.Owner) int {
	n := 0
	for _, p := range share.Moved(was, now) {
		if slices.Contains(places, p) && slices.Contains(was, api.Owner{Place: p, Id: id}) {
			n++
		}
	}
	return n
}

// 16.3 to 16.5: members come and go, and places come and go, for a long time, each time from the last answer; a member loses just what is above its quota.
func TestLongByRule(t *testing.T) {
	r := &rule{seed: 61}
	places, members := placed(40), []int{}
	var now []api.Owner
	for range 4000 {
		switch id := r.below(api.MaxSessions); {
		case r.below(4) == 0:
			places = shuffled(r, placed(257))[:r.below(60)]
		case slices.Contains(members, id):
			members = slices.DeleteFunc(members, func(other int) bool { return other == id })
		case len(members) < api.MaxMembers:
			members = append(members, id)
			slices.Sort(members)
		}
		next := assigned(t, members, places, now...)
		if want := shares(members, places, now); !slices.Equal(ids(next), want) {
			t.Fatalf("Assign(%v, %v, %v): %v, want %v", members, places, now, ids(next), want)
		}
		for _, id := range members {
			if lost, more := lost(id, places, now, next), held(id, places, now)-len(share.Of(next, id)); lost != max(0, more) {
				t.Fatalf("Assign(%v, %v, %v): %v: %d lost %d places, want %d", members, places, now, next, id, lost, max(0, more))
			}
		}
		now = next
	}
}
