package ring_test

import (
	"fmt"
	"slices"
	"testing"

	"postrider/api"
	"postrider/ring"
)

// plain is a ring as the document's words say it, to hold the program's against: all that was ever claimed lies at its offset for good.
type plain struct {
	room      int
	over      bool
	head      int
	refs      []int
	published []bool
	went      []int // each one once, as the calls told it
}

// act is one call, by its name and its number.
type act struct {
	call string
	n    int
}

// answer is what a call tells, where there are several numbers in a row.
type answer struct {
	numbers []int
	err     int
}

// claim is Claim as the document says it.
func (p *plain) claim(ref int) answer {
	went := 0
	switch {
	case ref < 1:
		return answer{err: 2}
	case len(p.refs)-p.head == p.room && !(p.over && p.published[p.head]):
		return answer{err: 60}
	case len(p.refs)-p.head == p.room:
		went = p.refs[p.head]
		p.went = append(p.went, went)
		p.head++
	}
	p.refs, p.published = append(p.refs, ref), append(p.published, false)
	return answer{numbers: []int{len(p.refs) - 1, went}}
}

// trim is Trim as the document says it.
func (p *plain) trim(to int) answer {
	if to < 0 || to > len(p.refs) {
		return answer{err: 2}
	}
	if to <= p.head {
		return answer{}
	}
	if slices.Contains(p.published[p.head:to], false) {
		return answer{err: 8}
	}
	gone := slices.Clone(p.refs[p.head:to])
	p.went = append(p.went, gone...)
	p.head = to
	return answer{numbers: gone}
}

// fault is the number of the error that the offset meets; 0: its place is in the window.
func (p *plain) fault(at int) int {
	switch {
	case at < 0:
		return 2
	case at < p.head:
		return 61
	case at >= len(p.refs):
		return 5
	}
	return 0
}

// do is what the document says that the call answers.
func (p *plain) do(c act) answer {
	switch c.call {
	case "claim":
		return p.claim(c.n)
	case "trim":
		return p.trim(c.n)
	}
	if e := p.fault(c.n); e != 0 {
		return answer{err: e}
	}
	was := p.published[c.n]
	switch {
	case c.call == "publish" && was:
		return answer{err: 6}
	case c.call == "publish":
		p.published[c.n] = true
		return answer{}
	case !was:
		return answer{err: 8}
	}
	return answer{numbers: []int{p.refs[c.n]}}
}

// done is the program's answer to the call, in the same form.
func done(r *ring.Ring, c act) answer {
	switch c.call {
	case "claim":
		at, went, e := r.Claim(c.n)
		if e != api.OK && at == 0 && went == 0 {
			return answer{err: int(e)}
		}
		return answer{[]int{at, went}, int(e)}
	case "trim":
		gone, e := r.Trim(c.n)
		return answer{gone, int(e)}
	case "publish":
		return answer{err: int(r.Publish(c.n))}
	}
	ref, e := r.Get(c.n)
	if e != api.OK && ref == 0 {
		return answer{err: int(e)}
	}
	return answer{[]int{ref}, int(e)}
}

// ready is Ready as the document says it.
func (p *plain) ready(from int) int {
	from = min(max(from, p.head), len(p.refs))
	if i := slices.Index(p.published[from:], false); i >= 0 {
		return from + i
	}
	return len(p.refs)
}

// differs is where a ring is not as the plain one; "": nowhere.
func (p *plain) differs(r *ring.Ring) string {
	refs := r.Refs()
	if r.Room() != p.room || r.Head() != p.head || r.Tail() != len(p.refs) || !slices.Equal(refs, p.refs[p.head:]) {
		return fmt.Sprint("room, head, tail, references: ", r.Room(), r.Head(), r.Tail(), refs, ", want ", p.room, p.head, len(p.refs), p.refs[p.head:])
	}
	if len(refs) > p.room || !slices.Equal(append(slices.Clone(p.went), refs...), p.refs) {
		return fmt.Sprint("what went, and what is there: ", p.went, refs, ", claimed: ", p.refs)
	}
	for at := p.head - 1; at <= len(p.refs)+1; at++ {
		want := p.do(act{"get", at})
		if got := done(r, act{"get", at}); !slices.Equal(got.numbers, want.numbers) || got.err != want.err {
			return fmt.Sprint("Get(", at, "): ", got, ", want ", want)
		}
		if r.Ready(at) != p.ready(at) {
			return fmt.Sprint("Ready(", at, "): ", r.Ready(at), ", want ", p.ready(at))
		}
	}
	return ""
}

// hold does a call of both rings, and holds one's answer against the other's.
func hold(t *testing.T, p *plain, r *ring.Ring, c act, past []act) {
	t.Helper()
	got, want := done(r, c), p.do(c)
	if !slices.Equal(got.numbers, want.numbers) || got.err != want.err {
		t.Fatalf("room %d, over %v: %v behind %v: %v, want %v", p.room, p.over, c, past, got, want)
	}
}

// both makes a ring, and a plain one.
func both(t *testing.T, room, policy int) (*plain, *ring.Ring) {
	t.Helper()
	return &plain{room: room, over: policy == api.Over}, made(t, room, policy)
}

// 6.1 to 6.6, P1, P2: each history of five calls, on rings of one to three places under both policies, answers and leaves what the document's words say.
func TestHistories(t *testing.T) {
	acts := []act{
		{"claim", 7}, {"claim", 8}, {"claim", 0},
		{"publish", 0}, {"publish", 1}, {"publish", 2},
		{"get", 1}, {"trim", 1}, {"trim", 2},
	}
	all := 1
	for range 5 {
		all *= len(acts)
	}
	for kind := range 6 {
		for history := range all { // its digits are its calls
			p, r := both(t, kind/2+1, policies[kind%2])
			past := make([]act, 0, 5)
			for rest := history; len(past) < cap(past); rest /= len(acts) {
				c := acts[rest%len(acts)]
				hold(t, p, r, c, past)
				past = append(past, c)
			}
			if d := p.differs(r); d != "" { // what is behind fewer calls, another history ends with
				t.Fatalf("room %d, over %v: behind %v: %s", p.room, p.over, past, d)
			}
		}
	}
}

// chosen is a call of a plain ring by a rule that below picks by: most by offsets in the window, some by others.
func chosen(p *plain, claims int, below func(int) int) act {
	at := p.head + below(p.room+4) - 2
	if below(30) == 0 {
		at = below(5) - 2
	}
	switch kind := below(10); {
	case kind < claims:
		return act{"claim", below(1000)}
	case kind < 8:
		return act{"publish", at}
	case kind < 9:
		return act{"get", at}
	}
	return act{"trim", p.head + below(4) - 1}
}

// 6.1 to 6.6, P1, P2: long histories from a fixed rule, on rings of little and of much room, of which many, or few, calls claim.
func TestLongHistories(t *testing.T) {
	seed := uint32(11)
	below := func(n int) int {
		seed = seed*1664525 + 1013904223
		return int(seed>>8) % n
	}
	for _, room := range []int{1, 2, 3, 5, 16, api.MaxRing - 1, api.MaxRing} {
		for _, policy := range policies {
			for _, claims := range []int{1, 3, 5} {
				p, r := both(t, room, policy)
				past := []act{}
				for range 3000 {
					c := chosen(p, claims, below)
					hold(t, p, r, c, past)
					past = append(past, c)
					if d := p.differs(r); d != "" {
						t.Fatalf("room %d, over %v: behind %v: %s", room, p.over, past, d)
					}
				}
				if p.head < room {
					t.Errorf("room %d, over %v: only %d places went", room, p.over, p.head)
				}
			}
		}
	}
}
