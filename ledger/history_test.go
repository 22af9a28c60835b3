package ledger_test

import (
	"fmt"
	"slices"
	"testing"

	"postrider/api"
	"postrider/ledger"
)

// plain is a ledger as the document's words say it, to hold the program's against: no span is kept, but of each offset whether it was accepted.
type plain struct {
	from     int
	accepted []bool
}

func (p *plain) end() int { return p.from + len(p.accepted) }

// spans are the spans of a kind, and how many there are of both.
func (p *plain) spans(kind bool) ([]api.Span, int) {
	list, n := []api.Span{}, 0
	for i, is := range p.accepted {
		if i == 0 || is != p.accepted[i-1] {
			n++
			if is == kind {
				list = append(list, api.Span{From: p.from + i})
			}
		}
		if is == kind {
			list[len(list)-1].To = p.from + i + 1
		}
	}
	return list, n
}

// do is what the document says that the call answers.
func (p *plain) do(c act) int {
	if c.call == "back" {
		switch {
		case c.to < 0:
			return 2
		case c.to < p.from || c.to > p.end():
			return 61
		}
		p.accepted = slices.Clone(p.accepted[:c.to-p.from])
		return 0
	}
	if c.to <= p.end() || c.to > 1<<40 {
		return 2
	}
	was := p.accepted
	for p.end() < c.to {
		p.accepted = append(p.accepted, c.call == "accept")
	}
	if _, n := p.spans(true); n > 256 {
		p.accepted = was
		return 4
	}
	return 0
}

// is is what the document says that Is answers.
func (p *plain) is(at int) (bool, int) {
	if at < p.from || at >= p.end() {
		return false, 5
	}
	return p.accepted[at-p.from], 0
}

// differs is where a ledger is not as the plain one, or not as the promises say; "": nowhere.
func (p *plain) differs(l *ledger.Ledger) string {
	accepted, _ := p.spans(true)
	skipped, _ := p.spans(false)
	if l.From() != p.from || l.End() != p.end() || !slices.Equal(l.Accepted(), accepted) || !slices.Equal(l.Skipped(), skipped) {
		return fmt.Sprint("from, end, spans: ", l.From(), l.End(), l.Accepted(), l.Skipped(), ", want ", p.from, p.end(), accepted, skipped)
	}
	for at := p.from - 2; at < p.end()+2; at++ {
		if at == p.from+20 { // the spans tell those between
			at = max(at, p.end()-20)
		}
		want, err := p.is(at)
		if is, e := l.Is(at); is != want || int(e) != err {
			return fmt.Sprint("Is(", at, "): ", is, int(e), ", want ", want, err)
		}
	}
	return broken(l)
}

// pair is a ledger, and the plain one that it is held against.
type pair struct {
	l *ledger.Ledger
	p *plain
}

func both(t *testing.T, from int) pair {
	t.Helper()
	return pair{made(t, from), &plain{from: from}}
}

// hold does a call of both, and holds one's answer against the other's.
func (x pair) hold(t *testing.T, c act, past []act) int {
	t.Helper()
	got, want := int(do(x.l, c)), x.p.do(c)
	if got != want {
		t.Fatalf("from %d: %v behind %v: %d, want %d", x.p.from, c, past, got, want)
	}
	return want
}

// histories does each history of so many calls, behind the first ones. Acts tell of offsets from where the ledger begins on.
func histories(t *testing.T, from, length int, first []act, acts []act) {
	t.Helper()
	begun := both(t, from)
	for _, c := range first {
		begun.hold(t, c, nil)
	}
	all := 1
	for range length {
		all *= len(acts)
	}
	for history := range all { // its digits are its calls
		x := pair{made(t, from, first...), &plain{from, slices.Clone(begun.p.accepted)}}
		past := make([]act, 0, length)
		for rest := history; len(past) < cap(past); rest /= len(acts) {
			c := acts[rest%len(acts)]
			c.to += from
			x.hold(t, c, past)
			past = append(past, c)
		}
		if d := x.p.differs(x.l); d != "" { // what is behind fewer calls, another history ends with
			t.Fatalf("from %d: behind %d calls, and %v: %s", from, len(first), past, d)
		}
	}
}

// 14.1 to 14.5, P1, P2: each history of five calls of ledgers that begin at 0 and at 1, and of four of some that begin further on, up to MaxOffset, answers and leaves what the document's words say.
func TestHistories(t *testing.T) {
	acts := []act{
		{"accept", 1}, {"accept", 3}, {"accept", 4}, {"skip", 2}, {"skip", 3}, {"skip", 5},
		{"back", -1}, {"back", 0}, {"back", 1}, {"back", 2}, {"back", 3},
	}
	for _, from := range []int{0, 1, 9, api.MaxOffset - 5, api.MaxOffset - 3, api.MaxOffset - 1, api.MaxOffset} {
		length := 4
		if from < 2 {
			length = 5
		}
		histories(t, from, length, nil, acts)
	}
}

// 14.1 to 14.5, P1, P2: each history of four calls of ledgers that have nearly as many spans as there may be, or just so many.
func TestHistoriesOfFullLedgers(t *testing.T) {
	for n := api.MaxItems - 2; n <= api.MaxItems; n++ {
		for _, first := range kinds {
			histories(t, 7, 4, turns(first, 7, n, 2), []act{
				{"accept", 2*n + 1}, {"accept", 2*n + 2}, {"skip", 2*n + 1}, {"skip", 2*n + 2},
				{"back", 2*n - 1}, {"back", 2*n - 2}, {"back", 2*n - 3},
			})
		}
	}
}

// chosen is a call by a rule that below picks by: most go on a little, of the kind that was not last, some go back, and some are to be refused.
func chosen(p *plain, back int, below func(int) int) act {
	kind := kinds[below(2)]
	if n := len(p.accepted); n > 0 && below(4) > 0 {
		kind = "accept"
		if p.accepted[n-1] {
			kind = "skip"
		}
	}
	switch below(back) {
	case 0:
		return act{"back", p.end() - below(12)}
	case 1:
		return act{"back", p.end() + 2 - below(len(p.accepted)+5)}
	}
	switch below(12) {
	case 0:
		return act{kind, p.end() - below(3)}
	case 1:
		return act{kind, api.MaxOffset + 1 + below(3)}
	case 2:
		return act{"back", []int{-1, p.from - 1, p.end() + 1, api.MaxOffset + 1}[below(4)]}
	}
	return act{kind, p.end() + 1 + below(3)}
}

// 14.1 to 14.5, P1, P2: long histories from a fixed rule, of ledgers and of their copies, of which each goes on by itself. Each error is met.
func TestLongHistories(t *testing.T) {
	seed := uint32(14)
	below := func(n int) int {
		seed = seed*1664525 + 1013904223
		return int(seed>>8) % n
	}
	for _, from := range []int{0, 3, api.MaxOffset - 40, api.MaxOffset - 100000} {
		for _, back := range []int{3, 20, 300} { // the less often it goes back, the more spans there are
			seen := map[int]int{}
			list := []pair{both(t, from), both(t, from), both(t, from)}
			past := [][]act{nil, nil, nil}
			for i := range 6000 {
				n := below(len(list))
				x := list[n]
				c := chosen(x.p, back, below)
				seen[x.hold(t, c, past[n])]++
				past[n] = append(past[n], c)
				if i%50 == 49 {
					other := below(len(list))
					list[n] = pair{list[other].l.Copy(), &plain{from, slices.Clone(list[other].p.accepted)}}
					past[n] = slices.Clone(past[other])
				}
				for n, x := range list {
					if d := x.p.differs(x.l); d != "" {
						t.Fatalf("from %d, ledger %d of the three: behind %v: %s", from, n, past[n], d)
					}
				}
			}
			for _, e := range []api.Errno{api.OK, api.ErrArg, api.ErrWindow} {
				if seen[int(e)] == 0 {
					t.Errorf("from %d, %d: no call met %d: %v", from, back, int(e), seen)
				}
			}
			if far := from+100000 <= api.MaxOffset; far && back == 300 && seen[int(api.ErrFull)] == 0 {
				t.Errorf("from %d, %d: never full: %v", from, back, seen)
			}
		}
	}
}
