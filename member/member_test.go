package member_test

import (
	"fmt"
	"math"
	"slices"
	"testing"

	"postrider/api"
	"postrider/member"
)

// The numbers that the document's limits, and the machine's, set apart.
var (
	below = []int{math.MinInt, math.MinInt + 1, -api.MaxOffset, -api.MaxSessions - 1, -api.MaxSessions, -api.MaxMembers, -2, -1}
	above = []int{api.MaxSessions, api.MaxSessions + 1, 2*api.MaxSessions - 1, 2 * api.MaxSessions, api.MaxOffset, math.MaxInt - 1, math.MaxInt}
	none  = slices.Concat(below, above) // no sessions' numbers
	calls = []string{"join", "leave"}
)

// act is one call that changes a list, by its name and its number.
type act struct {
	call string
	id   int
}

// do is the program's answer to the call.
func do(l *member.List, c act) (int, api.Errno) {
	if c.call == "join" {
		return l.Join(c.id)
	}
	return l.Leave(c.id)
}

func same(t *testing.T, what string, got, want any) {
	t.Helper()
	if g, w := fmt.Sprint(got), fmt.Sprint(want); g != w {
		t.Errorf("%s: %s, want %s", what, g, w)
	}
}

// answers are a call's results in a row, errors as numbers.
func answers(results ...any) []any {
	for i, r := range results {
		if e, ok := r.(api.Errno); ok {
			results[i] = int(e)
		}
	}
	return results
}

// unmade are the lists that no call made.
func unmade() map[string]*member.List {
	return map[string]*member.List{"nil": nil, "plain": {}, "new": new(member.List)}
}

// made is a list that these joined, in this order.
func made(t *testing.T, ids ...int) *member.List {
	t.Helper()
	l := member.Make()
	if l == nil {
		t.Fatal("Make(): nil, want a list")
	}
	for i, id := range ids {
		holds(t, l, act{"join", id}, i+1)
	}
	return l
}

// holds does a call that is not to be refused, and holds the time then.
func holds(t *testing.T, l *member.List, c act, time int) {
	t.Helper()
	n, e := do(l, c)
	same(t, fmt.Sprint(c), answers(n, e, l.Time()), answers(time, 0, time))
}

// upTo are the numbers from one on, up to another one, not with it.
func upTo(from, to int) []int {
	ids := []int{}
	for id := from; id < to; id++ {
		ids = append(ids, id)
	}
	return ids
}

// told is all that calls tell of a list.
func told(l *member.List) string {
	text := fmt.Sprint(l.All(), l.Time(), answers(l.Eldest()))
	for id := -1; id <= api.MaxSessions; id++ {
		text += fmt.Sprint(" ", id, l.Has(id), answers(l.Since(id)), answers(l.Rank(id)))
	}
	return text
}

// refused holds that a call is refused, and that this changes nothing.
func refused(t *testing.T, l *member.List, c act, want api.Errno) {
	t.Helper()
	was := told(l)
	n, e := do(l, c)
	same(t, fmt.Sprint(c), answers(n, e), answers(0, want))
	same(t, "what is told behind what was refused", told(l), was)
}

// lists holds what all calls tell of a list against its members, rising, and their sinces.
func lists(t *testing.T, l *member.List, time int, ids, sinces []int) {
	t.Helper()
	same(t, "All, Time", answers(l.All(), l.Time()), answers(ids, time))
	for id := range api.MaxSessions {
		if i := slices.Index(ids, id); i < 0 {
			no(t, l, id, api.ErrMember)
		} else {
			same(t, fmt.Sprint("Has, Since, Rank of ", id), answers(l.Has(id), answers(l.Since(id)), answers(l.Rank(id))), answers(true, answers(sinces[i], 0), answers(i, 0)))
		}
	}
	want := answers(0, api.ErrMember)
	if len(ids) > 0 {
		want = answers(ids[slices.Index(sinces, slices.Min(sinces))], 0)
	}
	same(t, "Eldest", answers(l.Eldest()), want)
}

// no holds that calls that ask for a member's tell that the number is none's.
func no(t *testing.T, l *member.List, id int, want api.Errno) {
	t.Helper()
	same(t, fmt.Sprint("Has, Since, Rank of ", id), answers(l.Has(id), answers(l.Since(id)), answers(l.Rank(id))), answers(false, answers(0, want), answers(0, want)))
}

// orders goes on with each order of the ids.
func orders(ids []int, do func([]int)) {
	var choose func(chosen []int)
	choose = func(chosen []int) {
		if len(chosen) == len(ids) {
			do(slices.Clone(chosen))
			return
		}
		for _, id := range ids {
			if !slices.Contains(chosen, id) {
				choose(append(slices.Clone(chosen), id))
			}
		}
	}
	choose(nil)
}

// Example is the chapter's.
func Example() {
	l := member.Make()
	fmt.Println(l.Join(5))
	fmt.Println(l.Join(2))
	fmt.Println(l.Leave(5))
	fmt.Println(l.Join(5))
	fmt.Println(l.All(), l.Time())
	fmt.Println(l.Eldest())
	fmt.Println(l.Since(5))
	// Output:
	// 1 error 0
	// 2 error 0
	// 3 error 0
	// 4 error 0
	// [2 5] 4
	// 2 error 0
	// 4 error 0
}

// 15.1, 15.2: a new list is without members, at time 0, and has no eldest.
func TestMake(t *testing.T) {
	l := made(t)
	lists(t, l, 0, []int{}, []int{})
	for _, id := range none {
		no(t, l, id, api.ErrArg)
	}
}

// P1, rule 2: a list that no call made answers ErrNil ahead of all other errors, or zero values; nothing is done.
func TestUnmade(t *testing.T) {
	for kind, l := range unmade() {
		for range 2 {
			for _, id := range slices.Concat(none, upTo(0, api.MaxSessions)) {
				for _, call := range calls {
					n, e := do(l, act{call, id})
					same(t, kind+": "+call, answers(n, e), answers(0, api.ErrNil))
				}
				no(t, l, id, api.ErrNil)
			}
			same(t, kind+": All, Time, Eldest", answers(len(l.All()), l.Time(), answers(l.Eldest())), answers(0, 0, answers(0, api.ErrNil)))
		}
	}
}

// 15.1, P1, P2: numbers that are no session's come ahead of all other errors of a list without members, with some, and with as many as there may be; no call knows them.
func TestNoSessions(t *testing.T) {
	for _, ids := range [][]int{{}, {0}, {api.MaxSessions - 1}, {0, 1, api.MaxSessions - 1}, upTo(0, api.MaxMembers), upTo(api.MaxSessions-api.MaxMembers, api.MaxSessions)} {
		l := made(t, ids...)
		for _, id := range none {
			for _, call := range calls {
				refused(t, l, act{call, id}, api.ErrArg)
			}
			no(t, l, id, api.ErrArg)
		}
	}
}

// 15.1, 15.2, 15.4: each session, the first and the last one too, may join and leave by itself, and again; the time goes on.
func TestEachSession(t *testing.T) {
	for id := range api.MaxSessions {
		l := made(t)
		for time := 0; time < 10; time += 2 {
			refused(t, l, act{"leave", id}, api.ErrMember)
			holds(t, l, act{"join", id}, time+1)
			lists(t, l, time+1, []int{id}, []int{time + 1})
			refused(t, l, act{"join", id}, api.ErrSame)
			holds(t, l, act{"leave", id}, time+2)
			lists(t, l, time+2, []int{}, []int{})
		}
	}
}

// 15.1, P2: a session that is a member joins no second time, and its since stays; one that is none does not leave, whoever else is there.
func TestTwice(t *testing.T) {
	for n := range api.MaxMembers + 1 {
		l := made(t, upTo(4, 4+n)...)
		for id := range api.MaxSessions {
			if id >= 4 && id < 4+n {
				refused(t, l, act{"join", id}, api.ErrSame)
			} else {
				refused(t, l, act{"leave", id}, api.ErrMember)
			}
		}
		lists(t, l, n, upTo(4, 4+n), upTo(1, 1+n))
	}
}

// 15.1, P1, P2: up to MaxMembers join, and one more does not; ErrSame comes ahead of ErrFull. Who leaves makes room for one.
func TestFull(t *testing.T) {
	for from := range api.MaxSessions - api.MaxMembers + 1 {
		ids := upTo(from, from+api.MaxMembers)
		l := made(t, ids...)
		lists(t, l, api.MaxMembers, ids, upTo(1, 1+api.MaxMembers))
		for id := range api.MaxSessions {
			if slices.Contains(ids, id) {
				refused(t, l, act{"join", id}, api.ErrSame)
			} else {
				refused(t, l, act{"join", id}, api.ErrFull)
			}
		}
		time := api.MaxMembers
		for id := range api.MaxSessions {
			out := l.All()[id%api.MaxMembers]
			if l.Has(id) {
				continue
			}
			holds(t, l, act{"leave", out}, time+1)
			same(t, "members", len(l.All()), api.MaxMembers-1)
			holds(t, l, act{"join", id}, time+2)
			refused(t, l, act{"join", out}, api.ErrFull)
			time += 2
		}
	}
}

// 15.2, 15.3, 15.5: of each set of up to MaxMembers sessions, that join rising or falling, and of none but these, all is told by number.
func TestAllSets(t *testing.T) {
	for set := range 1 << api.MaxSessions {
		ids := []int{}
		for id := range api.MaxSessions {
			if set>>id&1 == 1 {
				ids = append(ids, id)
			}
		}
		if len(ids) > api.MaxMembers {
			continue
		}
		for _, falling := range []bool{false, true} {
			l := member.Make()
			for i := range ids {
				id := ids[i]
				if falling {
					id = ids[len(ids)-1-i]
				}
				if n, e := l.Join(id); n != i+1 || e != api.OK {
					t.Fatalf("Join(%d): %d, %d, want %d, 0", id, n, int(e), i+1)
				}
			}
			if all := l.All(); !slices.Equal(all, ids) {
				t.Fatalf("All: %v, want %v", all, ids)
			}
			rank := 0
			for id := range api.MaxSessions {
				is := set>>id&1 == 1
				want := answers(is, 0, api.ErrMember)
				if is {
					want = answers(is, rank, 0)
					rank++
				}
				if n, e := l.Rank(id); l.Has(id) != want[0] || n != want[1] || int(e) != want[2] {
					t.Fatalf("%v: Has, Rank of %d: %v, %d, %d, want %v", ids, id, l.Has(id), n, int(e), want)
				}
			}
			first := 0
			if falling {
				first = len(ids) - 1
			}
			if id, e := l.Eldest(); len(ids) > 0 && (id != ids[first] || e != api.OK) {
				t.Fatalf("%v, falling: %v: Eldest: %d, %d, want %d", ids, falling, id, int(e), ids[first])
			}
		}
	}
}

// 15.2, 15.4, 15.5: in whatever order six sessions join, All and Rank go by number, Since and Eldest by that order.
func TestAllOrders(t *testing.T) {
	ids := []int{0, 1, 6, 7, 14, 15}
	orders(ids, func(order []int) {
		l := made(t, order...)
		sinces := []int{}
		for _, id := range ids {
			sinces = append(sinces, slices.Index(order, id)+1)
		}
		lists(t, l, len(order), ids, sinces)
	})
}

// 15.2, 15.3: in whatever order five members leave, all is told of those that stay, till there is none, and the list begins anew but for the time.
func TestAllLeave(t *testing.T) {
	ids, sinces := []int{2, 3, 8, 9, 15}, []int{4, 1, 5, 3, 2}
	orders(ids, func(order []int) {
		l := made(t, 3, 15, 9, 2, 8)
		there, since := slices.Clone(ids), slices.Clone(sinces)
		for i, id := range order {
			holds(t, l, act{"leave", id}, 6+i)
			at := slices.Index(there, id)
			there, since = slices.Delete(there, at, at+1), slices.Delete(since, at, at+1)
			lists(t, l, 6+i, there, since)
		}
		for _, id := range order {
			refused(t, l, act{"leave", id}, api.ErrMember)
		}
		holds(t, l, act{"join", order[0]}, 11)
		lists(t, l, 11, order[:1], []int{11})
	})
}

// 15.2, 15.4: the eldest that leaves and joins again is the youngest: the next one is the eldest then, round and round.
func TestEldest(t *testing.T) {
	for _, order := range [][]int{{4}, {4, 9}, {9, 4}, {7, 0, 15}, {15, 7, 0}, upTo(0, api.MaxMembers), {9, 1, 8, 2, 7, 3, 6, 4}} {
		l := made(t, order...)
		time := len(order)
		for i := range 3 * len(order) {
			id := order[i%len(order)]
			same(t, "Eldest", answers(l.Eldest()), answers(id, 0))
			was, _ := l.Since(id)
			holds(t, l, act{"leave", id}, time+1)
			if len(order) > 1 {
				same(t, "Eldest, behind its leaving", answers(l.Eldest()), answers(order[(i+1)%len(order)], 0))
			} else {
				same(t, "Eldest of none", answers(l.Eldest()), answers(0, api.ErrMember))
			}
			holds(t, l, act{"join", id}, time+2)
			time += 2
			if since, e := l.Since(id); since <= was || since != time || e != api.OK {
				t.Errorf("Since(%d): %d, %d, want %d, above %d", id, since, int(e), time, was)
			}
		}
	}
}

// 15.2: the eldest stays the eldest, whoever else comes and goes, and whatever its number.
func TestEldestStays(t *testing.T) {
	for id := range api.MaxSessions {
		l := made(t, id)
		for other := range api.MaxSessions {
			if other == id {
				continue
			}
			time := l.Time()
			holds(t, l, act{"join", other}, time+1)
			same(t, "Eldest", answers(l.Eldest()), answers(id, 0))
			if other%2 == 0 {
				holds(t, l, act{"leave", other}, time+2)
				same(t, "Eldest", answers(l.Eldest()), answers(id, 0))
			}
			if len(l.All()) == api.MaxMembers {
				break
			}
		}
	}
}

// 15.4: the time tells how many changes there were, also a great many; what is refused is none.
func TestTime(t *testing.T) {
	l := made(t)
	for time := 0; time < 40000; time += 2 {
		id := time / 2 % api.MaxSessions
		holds(t, l, act{"join", id}, time+1)
		same(t, "Since", answers(l.Since(id)), answers(time+1, 0))
		for _, c := range []act{{"join", id}, {"join", -1}, {"leave", api.MaxSessions}, {"leave", (id + 1) % api.MaxSessions}} {
			if n, e := do(l, c); n != 0 || e == api.OK || l.Time() != time+1 {
				t.Fatalf("%v: %d, %d, and the time is %d", c, n, int(e), l.Time())
			}
		}
		holds(t, l, act{"leave", id}, time+2)
	}
}

// Rule 4: what All hands out is the caller's own, with the room behind it.
func TestAllIsTheCallersOwn(t *testing.T) {
	for n := range api.MaxMembers + 1 {
		l := made(t, upTo(3, 3+n)...)
		was := told(l)
		first, second := l.All(), l.All()
		for i := range first {
			first[i] = -7
		}
		first = append(first, 1, 2, 3)
		same(t, "the list", told(l), was)
		same(t, "another answer", second, upTo(3, 3+n))
		if n > 0 {
			holds(t, l, act{"leave", 3}, n+1)
			same(t, "an answer from before a change", second, upTo(3, 3+n))
		}
	}
}

// 15.1: two lists have nothing in common.
func TestListsApart(t *testing.T) {
	l, twin := made(t, 4, 9), made(t)
	was := told(l)
	holds(t, twin, act{"join", 9}, 1)
	holds(t, twin, act{"join", 4}, 2)
	holds(t, twin, act{"leave", 9}, 3)
	holds(t, twin, act{"join", 0}, 4)
	same(t, "the first list", told(l), was)
	lists(t, twin, 4, []int{0, 4}, []int{4, 2})
}

// P2: asking changes nothing.
func TestAskingChangesNothing(t *testing.T) {
	for n := range api.MaxMembers + 1 {
		l := made(t, upTo(0, n)...)
		was := told(l)
		for _, id := range slices.Concat(none, upTo(0, api.MaxSessions)) {
			l.Has(id)
			l.Since(id)
			l.Rank(id)
		}
		l.All()
		l.Time()
		l.Eldest()
		same(t, "what is told", told(l), was)
	}
}
