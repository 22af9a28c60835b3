package rebal_test

import (
	"fmt"
	"maps"
	"slices"
	"testing"

	"postrider/api"
	"postrider/rebal"
	"postrider/share"
)

// act is a call that changes a table: to begin anew with places and members, or else to acknowledge.
type act struct {
	begin   bool
	places  []api.Place
	members []int
	id      int
}

// do is the program's answer to the call.
func do(table *rebal.Table, c act) (bool, api.Errno) {
	if c.begin {
		return table.Begin(c.places, c.members...)
	}
	return table.Ack(c.id)
}

// plain is a table as the document's words say it: a place that nobody has is not among the owned ones, and what each member must acknowledge is kept, not found out.
type plain struct {
	places       []api.Place
	owner, goes  map[api.Place]int
	acknowledges map[int][]api.Place
	gen          int
}

// refuses is why a table does not begin anew.
func refuses(places []api.Place, members []int) api.Errno {
	if len(places) > 256 {
		return api.ErrLong
	}
	for i, p := range places {
		if p.Topic < 0 || p.Part < 0 || slices.Index(places, p) < i {
			return api.ErrArg
		}
	}
	for i, id := range members {
		if id < 0 || id > 15 || i > 7 || i > 0 && members[i-1] >= id {
			return api.ErrArg
		}
	}
	return api.OK
}

// who is the place's owner in the map; -1: nobody.
func who(owner map[api.Place]int, p api.Place) int {
	if id, is := owner[p]; is {
		return id
	}
	return -1
}

// owners are those of the map, in the order of the places.
func (x *plain) owners(of map[api.Place]int) []api.Owner {
	list := []api.Owner{}
	for _, p := range x.places {
		list = append(list, api.Owner{Place: p, Id: who(of, p)})
	}
	return list
}

// begin is what the document says that Begin does.
func (x *plain) begin(places []api.Place, members []int) {
	maps.DeleteFunc(x.owner, func(p api.Place, id int) bool {
		return !slices.Contains(places, p) || !slices.Contains(members, id)
	})
	x.places, x.goes, x.acknowledges = slices.Clone(places), map[api.Place]int{}, map[int][]api.Place{}
	shares, _ := share.Assign(members, places, x.owners(x.owner)...)
	for _, o := range shares {
		x.goes[o.Place] = o.Id
		if had, is := x.owner[o.Place]; is && had != o.Id {
			x.acknowledges[had] = append(x.acknowledges[had], o.Place)
		}
	}
}

// do is what the document says that the call answers.
func (x *plain) do(c act) (bool, api.Errno) {
	if c.begin {
		if e := refuses(c.places, c.members); e != api.OK {
			return false, e
		}
		x.begin(c.places, c.members)
	} else {
		if len(x.acknowledges[c.id]) == 0 {
			return false, api.ErrNone
		}
		for _, p := range x.acknowledges[c.id] {
			delete(x.owner, p)
		}
		delete(x.acknowledges, c.id)
	}
	if len(x.acknowledges) > 0 {
		return false, api.OK
	}
	x.owner = maps.Clone(x.goes)
	x.gen++
	return true, api.OK
}

// has is what the document says that Has answers.
func (x *plain) has(id int, p api.Place) api.Errno {
	switch {
	case !slices.Contains(x.places, p):
		return api.ErrNone
	case id < 0 || who(x.owner, p) != id:
		return api.ErrFence
	case slices.Contains(x.acknowledges[id], p):
		return api.ErrShare
	}
	return api.OK
}

// differs is where a table is not as the plain one; "": nowhere.
func (x *plain) differs(table *rebal.Table, sessions []int, others []api.Place) string {
	waits := slices.Sorted(maps.Keys(x.acknowledges))
	switch {
	case table.Gen() != x.gen:
		return fmt.Sprint("Gen: ", table.Gen(), ", want ", x.gen)
	case table.Settled() != (len(waits) == 0):
		return fmt.Sprint("Settled: ", table.Settled())
	case !slices.Equal(table.Waits(), waits):
		return fmt.Sprint("Waits: ", table.Waits(), ", want ", waits)
	case !slices.Equal(table.Owners(), x.owners(x.owner)):
		return fmt.Sprint("Owners: ", table.Owners(), ", want ", x.owners(x.owner))
	case !slices.Equal(table.Target(), x.owners(x.goes)):
		return fmt.Sprint("Target: ", table.Target(), ", want ", x.owners(x.goes))
	}
	for _, id := range sessions {
		if got := table.Revoked(id); !slices.Equal(got, x.acknowledges[id]) {
			return fmt.Sprint("Revoked of ", id, ": ", got, ", want ", x.acknowledges[id])
		}
		for _, p := range slices.Concat(x.places, others) {
			if e := table.Has(id, p); e != x.has(id, p) {
				return fmt.Sprint("Has of ", id, " and ", p, ": ", int(e), ", want ", int(x.has(id, p)))
			}
		}
	}
	return ""
}

// ahead is what a table told ahead of a call.
type ahead struct {
	owners, target []api.Owner
	gen            int
}

// look looks at a table ahead of a call.
func look(table *rebal.Table) ahead { return ahead{table.Owners(), table.Target(), table.Gen()} }

// broken tells what of 17.3 to 17.6 a call that answered so does not keep; "": nothing.
func (a ahead) broken(table *rebal.Table, c act, settled bool, e api.Errno) string {
	now := look(table)
	switch {
	case settled && now.gen != a.gen+1, !settled && now.gen != a.gen:
		return fmt.Sprint("17.6: the generation was ", a.gen, ", and is ", now.gen)
	case e != api.OK && fmt.Sprint(now) != fmt.Sprint(a):
		return "P2: it was refused, and changed something"
	case e == api.OK && settled != table.Settled():
		return "17.1: it is not as it told"
	case table.Settled() && !slices.Equal(now.owners, now.target):
		return "17.4: it is settled, and the owners are not the target"
	}
	has := map[api.Place]int{}
	for _, o := range now.owners {
		has[o.Place] = o.Id
	}
	if len(has) != len(now.owners) {
		return "17.3: a place has two owners"
	}
	for i, o := range a.owners {
		id, is := has[o.Place]
		if !is || o.Id < 0 || id == o.Id {
			continue
		}
		revoked := a.target[i].Id != o.Id
		switch {
		case c.begin && slices.Contains(c.members, o.Id):
			return fmt.Sprint("17.3, 17.5: ", o.Place, " went from ", o.Id, ", a member, to ", id)
		case !c.begin && (c.id != o.Id || !revoked):
			return fmt.Sprint("17.3, 17.5: ", o.Place, " went from ", o.Id, ", that did not acknowledge it, to ", id)
		}
	}
	return ""
}

// even tells how a settled table is not as 17.4 says; "": in no way.
func even(table *rebal.Table, members []int) string {
	has := map[int]int{}
	for _, o := range table.Owners() {
		if len(members) == 0 && o.Id != -1 || len(members) > 0 && !slices.Contains(members, o.Id) {
			return fmt.Sprint("17.4: ", o.Id, " has ", o.Place)
		}
		has[o.Id]++
	}
	for _, id := range members {
		for _, other := range members {
			if has[id] > has[other]+1 {
				return fmt.Sprint("17.4: ", id, " has ", has[id], " places, ", other, " has ", has[other])
			}
		}
	}
	return ""
}

// pair is a table, the plain one that it is held against, and the members with which it was begun last.
type pair struct {
	table   *rebal.Table
	plain   *plain
	members []int
}

// begun is a pair of new ones.
func begun(t *testing.T) *pair {
	t.Helper()
	return &pair{table: made(t), plain: &plain{owner: map[api.Place]int{}}}
}

// hold does a call of both, and holds one's answer against the other's, and what is told then.
func (x *pair) hold(c act, sessions []int, others []api.Place) (api.Errno, string) {
	a := look(x.table)
	got, e := do(x.table, c)
	want, f := x.plain.do(c)
	if got != want || e != f {
		return e, fmt.Sprint(got, int(e), ", want ", want, int(f))
	}
	if c.begin && e == api.OK {
		x.members = c.members
	}
	if b := a.broken(x.table, c, got, e); b != "" {
		return e, b
	}
	if got {
		if b := even(x.table, x.members); b != "" {
			return e, b
		}
	}
	return e, x.plain.differs(x.table, sessions, others)
}

// histories does each history of so many calls, behind the first ones.
func histories(t *testing.T, length int, first, acts []act) {
	t.Helper()
	count := 1
	for range length {
		count *= len(acts)
	}
	sessions, others := []int{-1, 0, 1, 2, 16}, placed(7)[6:]
	for history := range count { // its digits are its calls
		x := begun(t)
		past := slices.Clone(first)
		for _, c := range first {
			do(x.table, c)
			x.plain.do(c)
			x.members = c.members
		}
		for rest := history; len(past) < len(first)+length; rest /= len(acts) {
			c := acts[rest%len(acts)]
			if _, wrong := x.hold(c, sessions, others); wrong != "" {
				t.Fatalf("%v behind %v: %s", c, past, wrong)
			}
			past = append(past, c)
		}
	}
}

// 17.1 to 17.6, P1, P2: each history of calls from eleven, of a new table, and of one in which two must acknowledge, answers and leaves what the document's words say.
func TestHistories(t *testing.T) {
	p := placed(6)
	turned := slices.Clone(p)
	slices.Reverse(turned)
	acts := []act{
		{begin: true, places: p, members: []int{1, 2}}, {begin: true, places: turned, members: []int{0, 1, 2}},
		{begin: true, places: p[:4], members: []int{1}}, {begin: true, places: p[1:5], members: []int{0, 2}},
		{begin: true, places: p[:3], members: []int{2, 15}}, {begin: true, places: p},
		{begin: true, places: p[:2], members: []int{2, 1}},
		{id: 0}, {id: 1}, {id: 2}, {id: 15},
	}
	histories(t, 5, nil, acts)
	histories(t, 4, acts[:2], acts)
}

// 17.1 to 17.6, P1, P2: histories of three begins, with all sets of four members each, behind the second of which all that must acknowledge do so, in rising or in falling order, or do not.
func TestAllMembers(t *testing.T) {
	p, sessions := placed(6), []int{-1, 0, 1, 2, 3}
	lists := [][]api.Place{p[:2], p[:5], {p[5], p[4], p[3], p[2], p[1], p[0]}}
	set := func(bits int) []int {
		return slices.DeleteFunc(upTo(0, 4), func(id int) bool { return bits>>id&1 == 0 })
	}
	for code := range 16 * 16 * 16 * 9 {
		x, past := begun(t), []act{}
		hold := func(c act) {
			past = append(past, c)
			if _, wrong := x.hold(c, sessions, p); wrong != "" {
				t.Fatalf("behind %v: %s", past, wrong)
			}
		}
		hold(act{begin: true, places: p, members: set(code & 15)})
		hold(act{begin: true, places: lists[code>>12%3], members: set(code >> 4 & 15)})
		waits := x.table.Waits()
		switch code >> 12 / 3 {
		case 1:
			slices.Reverse(waits)
		case 2:
			waits = nil
		}
		for _, id := range waits {
			hold(act{id: id})
		}
		hold(act{begin: true, places: p, members: set(code >> 8 & 15)})
	}
}

// rule goes on from seed to seed, the same way each time.
type rule struct{ seed uint32 }

// below is the rule's next number from 0 on, less than n.
func (r *rule) below(n int) int {
	r.seed = r.seed*1664525 + 1013904223
	return int(r.seed>>8) % n
}

// shuffled is a list in the order that the rule says.
func shuffled[T any](r *rule, list []T) []T {
	for i := len(list) - 1; i > 0; i-- {
		j := r.below(i + 1)
		list[i], list[j] = list[j], list[i]
	}
	return list
}

// next is a table's next call: some begin anew with other members, or other places, a few of which may not be; others acknowledge, mostly such that must.
func (r *rule) next(x *pair) act {
	waits := x.table.Waits()
	switch n := r.below(20); {
	case n == 0:
		return act{id: r.below(api.MaxSessions+2) - 1}
	case n > 7 && len(waits) > 0:
		return act{id: waits[r.below(len(waits))]}
	}
	members, places := slices.Clone(x.members), slices.Clone(x.plain.places)
	for range 1 + r.below(2) {
		if id := r.below(api.MaxSessions); slices.Contains(members, id) {
			members = slices.DeleteFunc(members, func(other int) bool { return other == id })
		} else {
			members = append(members, id) // may be one too many
		}
	}
	slices.Sort(members)
	switch r.below(6) {
	case 0:
		places = shuffled(r, placed(257))[:r.below(70)]
	case 1:
		places = shuffled(r, places)
	case 2:
		for _, p := range placed(257)[r.below(250):] {
			if len(places) < 60 && !slices.Contains(places, p) {
				places = append(places, p)
			}
		}
	}
	switch r.below(40) {
	case 0:
		members = shuffled(r, members)
	case 1:
		places = placed(257)
	}
	return act{begin: true, places: places, members: members}
}

// 17.1 to 17.6, P1, P2: long histories from a fixed rule, of three tables by turns. Each error is met, and many must acknowledge.
func TestLongHistories(t *testing.T) {
	r, met, most := &rule{seed: 17}, map[api.Errno]int{}, 0
	list := []*pair{begun(t), begun(t), begun(t)}
	for range 6000 {
		at := r.below(len(list))
		x := list[at]
		c := r.next(x)
		was := fmt.Sprint(look(x.table))
		e, wrong := x.hold(c, all(), placed(257)[250:])
		if wrong != "" {
			t.Fatalf("table %d of the three: %v of %s: %s", at, c, was, wrong)
		}
		met[e]++
		most = max(most, len(x.table.Waits()))
	}
	for _, e := range []api.Errno{api.OK, api.ErrArg, api.ErrLong, api.ErrNone} {
		if met[e] == 0 {
			t.Errorf("no call met %d: %v", int(e), met)
		}
	}
	if most < 5 {
		t.Errorf("no more than %d had to acknowledge", most)
	}
}

// 17.4, 17.7: whatever was before, once all that must have acknowledged, in any of four orders, it is settled, evenly, and the same.
func TestSettlesByRule(t *testing.T) {
	r, changing := &rule{seed: 71}, 0
	for range 300 {
		list := []*pair{begun(t), begun(t), begun(t), begun(t)}
		for range 12 {
			c := r.next(list[0])
			if e := refuses(c.places, c.members); !c.begin || e != api.OK {
				continue
			}
			if r.below(3) == 0 { // a step between that all do alike
				if waits := list[0].table.Waits(); len(waits) > 0 {
					each(t, list, act{id: waits[r.below(len(waits))]})
				}
			}
			each(t, list, c)
		}
		waits := list[0].table.Waits()
		for _, x := range list {
			for _, id := range shuffled(r, slices.Clone(waits)) {
				if _, wrong := x.hold(act{id: id}, waits, nil); wrong != "" {
					t.Fatalf("Ack(%d): %s", id, wrong)
				}
			}
			if got, want := fmt.Sprint(look(x.table)), fmt.Sprint(look(list[0].table)); got != want || !x.table.Settled() {
				t.Fatalf("in the end: %s, want %s", got, want)
			}
			if b := even(x.table, x.members); b != "" {
				t.Fatal(b)
			}
		}
		changing += min(1, len(waits))
	}
	if changing < 50 {
		t.Errorf("only %d of the tables were changing in the end", changing)
	}
}

// each does the call of all.
func each(t *testing.T, list []*pair, c act) {
	t.Helper()
	for _, x := range list {
		if _, wrong := x.hold(c, []int{-1, 3}, nil); wrong != "" {
			t.Fatalf("%v: %s", c, wrong)
		}
	}
}
