package member_test

import (
	"slices"
	"testing"

	"postrider/api"
	"postrider/member"
)

// plain is a list as the document's words say it, to hold the program's against: no member is kept, but each change that was.
type plain struct{ changes []act }

// since is the time behind the session's last joining, if it did not leave since; else 0.
func (p *plain) since(id int) int {
	for i := len(p.changes) - 1; i >= 0; i-- {
		if c := p.changes[i]; c.id == id {
			if c.call == "join" {
				return i + 1
			}
			return 0
		}
	}
	return 0
}

// all are the members, rising.
func (p *plain) all() []int {
	ids := []int{}
	for id := 0; id <= 15; id++ {
		if p.since(id) > 0 {
			ids = append(ids, id)
		}
	}
	return ids
}

// do is what the document says that the call answers.
func (p *plain) do(c act) (int, int) {
	is := p.since(c.id) > 0
	switch {
	case c.id < 0 || c.id > 15:
		return 0, 2
	case c.call == "join" && is:
		return 0, 6
	case c.call == "join" && len(p.all()) == 8:
		return 0, 4
	case c.call == "leave" && !is:
		return 0, 150
	}
	p.changes = append(p.changes, c)
	return len(p.changes), 0
}

// differs is where a list is not as the plain one; false: nowhere.
func (p *plain) differs(l *member.List) bool {
	ids := p.all()
	if !slices.Equal(l.All(), ids) || l.Time() != len(p.changes) {
		return true
	}
	rank, eldest, least, err := 0, 0, 0, 150
	for id := range 16 {
		since, e := l.Since(id)
		n, f := l.Rank(id)
		want := p.since(id)
		if want == 0 {
			if l.Has(id) || since != 0 || e != 150 || n != 0 || f != 150 {
				return true
			}
			continue
		}
		if !l.Has(id) || since != want || e != 0 || n != rank || f != 0 {
			return true
		}
		if least == 0 || want < least {
			eldest, least, err = id, want, 0
		}
		rank++
	}
	id, e := l.Eldest()
	return id != eldest || int(e) != err
}

// pair is a list, and the plain one that it is held against.
type pair struct {
	l *member.List
	p *plain
}

// hold does a call of both, and holds one's answer against the other's.
func (x pair) hold(t *testing.T, c act, past []act) int {
	t.Helper()
	n, e := do(x.l, c)
	time, err := x.p.do(c)
	if n != time || int(e) != err {
		t.Fatalf("%v behind %v: %d, %d, want %d, %d", c, past, n, int(e), time, err)
	}
	if x.p.differs(x.l) {
		t.Fatalf("behind %v, and %v: %s; the changes were %v", past, c, told(x.l), x.p.changes)
	}
	return err
}

// histories does each history of so many calls, behind the joining of the first ones.
func histories(t *testing.T, length int, first []int, acts []act) {
	t.Helper()
	all := 1
	for range length {
		all *= len(acts)
	}
	for history := range all { // its digits are its calls
		x := pair{made(t, first...), &plain{}}
		for _, id := range first {
			x.p.do(act{"join", id})
		}
		past := make([]act, 0, length)
		for rest := history; len(past) < cap(past); rest /= len(acts) {
			c := acts[rest%len(acts)]
			x.hold(t, c, past)
			past = append(past, c)
		}
	}
}

// 15.1 to 15.5, P1, P2: each history of five calls from eight, of a list that nobody has joined yet, and of one that has two members, answers and leaves what the document's words say.
func TestHistories(t *testing.T) {
	acts := []act{
		{"join", 0}, {"join", 7}, {"join", api.MaxSessions - 1}, {"join", api.MaxSessions},
		{"leave", 0}, {"leave", 7}, {"leave", api.MaxSessions - 1}, {"leave", -1},
	}
	histories(t, 5, nil, acts)
	histories(t, 4, []int{7, 0}, acts)
}

// 15.1 to 15.5, P1, P2: each history of four calls of lists that have one member less than there may be, or just so many.
func TestHistoriesOfFullLists(t *testing.T) {
	acts := []act{
		{"join", 2}, {"join", 9}, {"join", 15}, {"join", -1},
		{"leave", 2}, {"leave", 9}, {"leave", 15}, {"leave", 16},
	}
	histories(t, 4, []int{12, 3, 9, 4, 11, 5, 10}, acts)
	histories(t, 4, []int{12, 3, 9, 4, 11, 5, 10, 2}, acts)
}

// 15.1 to 15.5, P1, P2: long histories from a fixed rule, of three lists by turns: some grow, some shrink. Each error is met.
func TestLongHistories(t *testing.T) {
	seed := uint32(15)
	below := func(n int) int {
		seed = seed*1664525 + 1013904223
		return int(seed>>8) % n
	}
	for _, joins := range []int{3, 5, 8} { // of ten calls so many are to join
		seen := map[int]int{}
		list := []pair{{made(t), &plain{}}, {made(t), &plain{}}, {made(t), &plain{}}}
		past := [][]act{nil, nil, nil}
		for range 4000 {
			n := below(len(list))
			c := act{"leave", below(api.MaxSessions+2) - 1}
			if below(10) < joins {
				c.call = "join"
			}
			seen[list[n].hold(t, c, past[n])]++
			past[n] = append(past[n], c)
			for other, x := range list {
				if x.p.differs(x.l) {
					t.Fatalf("list %d of the three: behind %v: %s", other, past[other], told(x.l))
				}
			}
		}
		for _, e := range []api.Errno{api.OK, api.ErrArg, api.ErrSame, api.ErrMember} {
			if seen[int(e)] == 0 {
				t.Errorf("%d: no call met %d: %v", joins, int(e), seen)
			}
		}
		if joins > 3 && seen[int(api.ErrFull)] == 0 {
			t.Errorf("%d: never full: %v", joins, seen)
		}
	}
}
