package fence_test

import (
	"fmt"
	"slices"
	"testing"

	"postrider/api"
	"postrider/fence"
)

// plain is a track as the document's words say it, to hold the program's against: no span is kept, but of each offset whether it was accepted. Beside it stands what promises are held against: which offsets were delivered since the track began, and the last one since Back or Seek.
type plain struct {
	from, next int
	accepted   []bool
	delivered  map[int]bool
	last       int
}

func plainOf(from int) *plain {
	return &plain{from: from, next: from, delivered: map[int]bool{}, last: -1}
}

func (p *plain) copy() *plain {
	c := &plain{p.from, p.next, slices.Clone(p.accepted), map[int]bool{}, p.last}
	for at := range p.delivered {
		c.delivered[at] = true
	}
	return c
}

func (p *plain) committed() int { return p.from + len(p.accepted) }

// runs are the spans of a kind, and how many there are of both.
func (p *plain) runs(kind bool) ([]api.Span, int) {
	list, n := []api.Span{}, 0
	for i, is := range p.accepted {
		if i == 0 || is != p.accepted[i-1] {
			n++
			if is == kind {
				list = append(list, api.Span{From: p.from + i})
			}
		}
		if is == kind {
			list[len(list)-1].To = p.from + i + 1
		}
	}
	return list, n
}

// becomes makes all from what is committed up to an offset accepted, or skipped, if there is room for it.
func (p *plain) becomes(kind bool, to int) bool {
	_, n := p.runs(true)
	if (len(p.accepted) == 0 || p.accepted[len(p.accepted)-1] != kind) && n == 256 {
		return false
	}
	for p.committed() < to {
		p.accepted = append(p.accepted, kind)
	}
	return true
}

// peek is what the document says that Peek answers.
func (p *plain) peek(head, tail int) (int, int) {
	switch {
	case head < 0, tail < head, 1<<40 < tail:
		return 0, 2
	case p.next < head && head < tail:
		return head, 0
	case p.next >= head && p.next < tail:
		return p.next, 0
	}
	return 0, 5
}

// do is what the document says that the call answers.
func (p *plain) do(c act) (int, int) {
	switch c.call {
	case "deliver":
		at, e := p.peek(c.head, c.tail)
		if e != 0 {
			return 0, e
		}
		if at != p.next && !p.becomes(false, c.head) {
			return 0, 4
		}
		p.next = at + 1
		return at, 0
	case "commit":
		switch {
		case c.to < 0, c.to > 1<<40:
			return 0, 2
		case c.to <= p.committed(), c.to > p.next:
			return 0, 61
		case !p.becomes(true, c.to):
			return 0, 4
		}
		return 0, 0
	case "seek":
		switch {
		case c.to < 0, c.to > 1<<40, c.head < 0, c.tail < c.head, 1<<40 < c.tail:
			return 0, 2
		case c.to < c.head, c.to > c.tail, c.to < p.committed():
			return 0, 61
		case c.to > p.next && !p.becomes(false, c.to):
			return 0, 4
		}
		p.next = c.to
		return 0, 0
	}
	p.next = p.committed()
	return 0, 0
}

// differs is where a track is not as the plain one, or not as the promises say; "": nowhere.
func (p *plain) differs(track *fence.Track) string {
	accepted, _ := p.runs(true)
	skipped, _ := p.runs(false)
	l := track.Ledger()
	if track.Next() != p.next || track.Committed() != p.committed() || l.From() != p.from || l.End() != p.committed() {
		return fmt.Sprint("next, committed, ledger: ", track.Next(), track.Committed(), l.From(), l.End(), ", want ", p.next, p.committed(), p.from)
	}
	if !slices.Equal(l.Accepted(), accepted) || !slices.Equal(l.Skipped(), skipped) {
		return fmt.Sprint("accepted, skipped: ", l.Accepted(), l.Skipped(), ", want ", accepted, skipped)
	}
	for _, w := range [][2]int{{p.next, p.next + 1}, {0, p.next}, {p.next, 1 << 40}, {p.next + 2, p.next + 3}, {p.from, p.next + 1}, {p.next + 1, p.next}} {
		want, err := p.peek(w[0], w[1])
		if at, e := track.Peek(w[0], w[1]); at != want || int(e) != err {
			return fmt.Sprint("Peek", w, ": ", at, int(e), ", want ", want, err)
		}
	}
	return p.broken(track)
}

// goes is where a delivery is not above the one ahead of it, since Back or Seek (18.4); "": it is.
func (p *plain) goes(c act, at int) string {
	switch c.call {
	case "deliver":
		if at <= p.last {
			return fmt.Sprint("18.4: ", at, " was delivered behind ", p.last)
		}
		p.last, p.delivered[at] = at, true
	case "seek", "back":
		p.last = -1
	}
	return ""
}

// broken is where a track is not as 18.5 and 18.6 say: what is accepted was delivered, and each offset from where it began up to what is committed is in just one span; "": nowhere.
func (p *plain) broken(track *fence.Track) string {
	l := track.Ledger()
	accepted := l.Accepted()
	for _, s := range accepted {
		for at := s.From; at < s.To; at++ {
			if !p.delivered[at] {
				return fmt.Sprint("18.5: ", at, " is accepted, and was not delivered")
			}
		}
	}
	all := slices.Concat(accepted, l.Skipped())
	slices.SortFunc(all, func(a, b api.Span) int { return a.From - b.From })
	end := p.from
	for _, s := range all {
		if s.From != end || s.To <= s.From {
			return fmt.Sprint("18.6: spans ", all, " from ", p.from)
		}
		end = s.To
	}
	if end != track.Committed() || track.Next() < end {
		return fmt.Sprint("18.6: spans up to ", end, ", committed ", track.Committed(), ", the next one ", track.Next())
	}
	return ""
}

// pair is a track, and the plain one that it is held against.
type pair struct {
	track *fence.Track
	plain *plain
}

func both(t *testing.T, from int, calls ...act) pair {
	t.Helper()
	x := pair{made(t, from), plainOf(from)}
	for _, c := range calls {
		if _, wrong := x.hold(c); wrong != "" {
			t.Fatalf("%v: %s", c, wrong)
		}
	}
	return x
}

// hold does a call of both, and holds one's answer against the other's.
func (x pair) hold(c act) (int, string) {
	at, e := do(x.track, c)
	want, err := x.plain.do(c)
	if at != want || int(e) != err {
		return err, fmt.Sprint(at, int(e), ", want ", want, err)
	}
	if e != api.OK {
		return err, ""
	}
	return err, x.plain.goes(c, at)
}

// histories does each history of so many calls, behind the first ones. Acts tell of offsets from one on.
func histories(t *testing.T, from, on, length int, first, acts []act) {
	t.Helper()
	begun := both(t, from, first...)
	count := 1
	for range length {
		count *= len(acts)
	}
	for history := range count { // its digits are its calls
		x := pair{made(t, from, first...), begun.plain.copy()}
		past := make([]act, 0, length)
		for rest := history; len(past) < cap(past); rest /= len(acts) {
			c := acts[rest%len(acts)]
			c.to, c.head, c.tail = c.to+on, c.head+on, c.tail+on
			past = append(past, c)
			if _, wrong := x.hold(c); wrong != "" {
				t.Fatalf("from %d, behind %d calls: %v: %s", from, len(first), past, wrong)
			}
		}
		if d := x.plain.differs(x.track); d != "" { // what is behind fewer calls, another history ends with
			t.Fatalf("from %d, behind %d calls: %v: %s", from, len(first), past, d)
		}
	}
}

// 18.1 to 18.6, P1, P2: each history of five calls of tracks that begin at 0 and at 2, and of four of some that begin further on, up to MaxOffset, answers and leaves what the document's words say.
func TestHistories(t *testing.T) {
	acts := []act{
		deliver(0, 3), deliver(2, 5), deliver(3, 3), deliver(4, 6), commit(1), commit(2), commit(4),
		seek(1, 0, 3), seek(3, 1, 5), seek(4, 2, 4), seek(5, 5, 6), back(),
	}
	for _, from := range []int{0, 2} {
		histories(t, from, 0, 5, nil, acts)
	}
	for _, from := range []int{9, api.MaxOffset - 6, api.MaxOffset - 5, api.MaxOffset - 4, api.MaxOffset - 2, api.MaxOffset - 1, api.MaxOffset} {
		histories(t, from, from, 4, nil, acts)
		histories(t, from, from-1, 4, nil, acts)
	}
}

// 18.1 to 18.6, P1, P2: each history of six calls of a track with what a window loses, what is committed, sought, and delivered again.
func TestHistoriesOfAWindow(t *testing.T) {
	histories(t, 1, 0, 6, nil, []act{
		deliver(0, 4), deliver(3, 6), commit(2), commit(3), commit(5), seek(2, 1, 4), seek(4, 2, 4), back(),
	})
}

// 18.1 to 18.6, P1, P2: each history of four calls of tracks that have nearly as many spans as there may be, or just so many, the last one of either kind.
func TestHistoriesOfFullLedgers(t *testing.T) {
	for n := api.MaxItems - 1; n <= api.MaxItems; n++ {
		for _, accepted := range []bool{true, false} {
			histories(t, 7, 7+n, 4, full(7, n, accepted), []act{
				deliver(0, 4), deliver(2, 4), commit(1), commit(3), seek(1, 0, 4), seek(3, 1, 4), back(),
			})
		}
	}
}

// rule goes on from seed to seed, the same way each time.
type rule struct{ seed uint32 }

// below is the rule's next number from 0 on, less than n.
func (r *rule) below(n int) int {
	r.seed = r.seed*1664525 + 1013904223
	return int(r.seed>>8) % n
}

// window is a window about what a track has: lossy times in twelve with a head past the next one; now and then it is none at all.
func (r *rule) window(p *plain, lossy int) (int, int) {
	head := max(0, p.committed()-r.below(3))
	switch n := r.below(12); {
	case n < lossy:
		head = p.next + 1 + r.below(3)
	case n == 9:
		head = p.next
	case n == 10:
		head = p.committed() + r.below(p.next-p.committed()+1)
	case n == 11:
		head = r.below(5) - 1
	}
	tail := max(head, p.next) + r.below(6)
	switch r.below(24) {
	case 0:
		tail = head
	case 1:
		tail = head - 1
	case 2:
		tail = api.MaxOffset
	case 3:
		tail = api.MaxOffset + 1
	}
	return head, tail
}

// chosen is a track's next call: many deliver, some commit, fewer seek or go back, and some of each are to be refused.
func (r *rule) chosen(p *plain, lossy int) act {
	head, tail := r.window(p, lossy)
	switch n := r.below(20); {
	case n < 10:
		return deliver(head, tail)
	case n < 14:
		return commit(p.next)
	case n < 16:
		return commit(p.committed() + r.below(p.next-p.committed()+3))
	case n == 16:
		return commit([]int{-1, 0, p.from, p.committed() - 1, p.next + 1, api.MaxOffset, api.MaxOffset + 1}[r.below(7)])
	case n == 17:
		return seek([]int{-1, head, head - 1, min(tail, p.next+9), min(tail, p.next+9) + 1, p.committed() - 1, api.MaxOffset + 1}[r.below(7)], head, tail)
	case n == 18:
		return seek(p.committed()+r.below(p.next-p.committed()+2), head, tail)
	}
	return back()
}

// 18.1 to 18.6, P1, P2: long histories from a fixed rule, of three tracks by turns, that lose little, or much. Each error is met.
func TestLongHistories(t *testing.T) {
	r := &rule{seed: 18}
	for _, from := range []int{0, 3, api.MaxOffset - 60, api.MaxOffset - 100000} {
		for _, lossy := range []int{1, 8} {
			met, list := map[int]int{}, []pair{both(t, from), both(t, from), both(t, from)}
			for range 3600 {
				n := r.below(len(list))
				x := list[n]
				c := r.chosen(x.plain, lossy)
				was := told(x.track)
				e, wrong := x.hold(c)
				if wrong == "" {
					wrong = x.plain.differs(x.track)
				}
				if wrong != "" {
					t.Fatalf("from %d, track %d of the three: %v of %s: %s", from, n, c, was, wrong)
				}
				if now := told(x.track); e != 0 && now != was {
					t.Fatalf("from %d, track %d of the three: %v was refused: %s became %s", from, n, c, was, now)
				}
				met[e]++
			}
			want := []api.Errno{api.OK, api.ErrArg, api.ErrNone, api.ErrWindow}
			if lossy == 8 && from+100000 <= api.MaxOffset {
				want = append(want, api.ErrFull)
			}
			for _, e := range want {
				if met[int(e)] == 0 {
					t.Errorf("from %d, %d: no call met %d: %v", from, lossy, int(e), met)
				}
			}
		}
	}
}
