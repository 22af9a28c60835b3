package ledger_test

import (
	"fmt"
	"math"
	"slices"
	"testing"

	"postrider/api"
	"postrider/ledger"
)

// The numbers that the document's limits, and the machine's, set apart.
var (
	starts = []int{0, 1, 2, 5, api.MaxItems - 1, api.MaxItems, 1 << 20, api.MaxOffset - 2, api.MaxOffset - 1, api.MaxOffset}
	below  = []int{math.MinInt, math.MinInt + 1, -api.MaxOffset - 1, -api.MaxOffset, -api.MaxItems, -2, -1}
	above  = []int{api.MaxOffset + 1, api.MaxOffset + 2, 2 * api.MaxOffset, math.MaxInt - 1, math.MaxInt}
	kinds  = []string{"accept", "skip"}
)

// act is one call that changes a ledger, by its name and its number.
type act struct {
	call string
	to   int
}

// do is the program's answer to the call.
func do(l *ledger.Ledger, c act) api.Errno {
	switch c.call {
	case "accept":
		return l.Accept(c.to)
	case "skip":
		return l.Skip(c.to)
	}
	return l.Back(c.to)
}

// other is the kind that a kind takes turns with.
func other(kind string) string {
	if kind == "skip" {
		return "accept"
	}
	return "skip"
}

func same(t *testing.T, what string, got, want any) {
	t.Helper()
	if g, w := fmt.Sprint(got), fmt.Sprint(want); g != w {
		t.Errorf("%s: %s, want %s", what, g, w)
	}
}

// answers are a call's results in a row, errors as numbers.
func answers(results ...any) []any {
	for i, r := range results {
		if e, ok := r.(api.Errno); ok {
			results[i] = int(e)
		}
	}
	return results
}

// unmade are the ledgers that no call made.
func unmade() map[string]*ledger.Ledger {
	return map[string]*ledger.Ledger{"nil": nil, "plain": {}, "new": new(ledger.Ledger)}
}

// made is a ledger for which these calls were done.
func made(t *testing.T, from int, calls ...act) *ledger.Ledger {
	t.Helper()
	l, e := ledger.Make(from)
	if l == nil || e != api.OK {
		t.Fatalf("Make(%d): %v, %d, want a ledger", from, l, int(e))
	}
	done(t, l, calls...)
	return l
}

// done does calls that are not to be refused.
func done(t *testing.T, l *ledger.Ledger, calls ...act) {
	t.Helper()
	for _, c := range calls {
		if e := do(l, c); e != api.OK {
			t.Fatalf("%v: %d", c, int(e))
		}
	}
}

// turns are calls for so many spans of as many offsets each, of both kinds in turn.
func turns(kind string, from, n, each int) []act {
	calls := []act{}
	for i := range n {
		calls = append(calls, act{kind, from + (i+1)*each})
		kind = other(kind)
	}
	return calls
}

// all are the spans of both kinds in order; true: accepted.
func all(l *ledger.Ledger) ([]api.Span, []bool) {
	spans, accepted := []api.Span{}, []bool{}
	yes, no := l.Accepted(), l.Skipped()
	for len(yes)+len(no) > 0 {
		if len(no) == 0 || len(yes) > 0 && yes[0].From <= no[0].From {
			spans, accepted, yes = append(spans, yes[0]), append(accepted, true), yes[1:]
		} else {
			spans, accepted, no = append(spans, no[0]), append(accepted, false), no[1:]
		}
	}
	return spans, accepted
}

// broken is where 14.4 does not hold: spans go from where the ledger begins up to its end, each from where the one ahead of it ends, of both kinds in turn. "": nowhere.
func broken(l *ledger.Ledger) string {
	spans, accepted := all(l)
	at := l.From()
	for i, s := range spans {
		if s.From != at || s.To <= s.From || i > 0 && accepted[i] == accepted[i-1] {
			return fmt.Sprint("spans ", spans, accepted, " from ", l.From())
		}
		at = s.To
	}
	if at != l.End() || len(spans) > api.MaxItems {
		return fmt.Sprint(len(spans), " spans up to ", at, ", and the end is ", l.End())
	}
	return ""
}

// told is all that calls tell of a ledger: of each span's first and last offset, too, and those about it.
func told(l *ledger.Ledger) string {
	spans, _ := all(l)
	offsets := []int{l.From() - 1, l.From(), l.End() - 1, l.End(), l.End() + 1}
	for _, span := range spans {
		offsets = append(offsets, span.From, span.To-1)
	}
	in, faults := []bool{}, []int{}
	for _, at := range offsets {
		is, e := l.Is(at)
		in, faults = append(in, is), append(faults, int(e))
	}
	return fmt.Sprint(l.From(), l.End(), l.Accepted(), l.Skipped(), offsets, in, faults)
}

// refused holds that a call is refused, and that this changes nothing.
func refused(t *testing.T, l *ledger.Ledger, c act, want api.Errno) {
	t.Helper()
	was := told(l)
	same(t, fmt.Sprint(c), int(do(l, c)), int(want))
	same(t, "what is told behind what was refused", told(l), was)
}

// lists holds a ledger's spans against what they are to be.
func lists(t *testing.T, what string, l *ledger.Ledger, accepted, skipped []api.Span) {
	t.Helper()
	same(t, what, answers(l.Accepted(), l.Skipped()), answers(accepted, skipped))
	if d := broken(l); d != "" {
		t.Errorf("%s: %s", what, d)
	}
}

// nowhere holds that offsets are in no span.
func nowhere(t *testing.T, l *ledger.Ledger, offsets ...int) {
	t.Helper()
	for _, at := range offsets {
		is, e := l.Is(at)
		same(t, fmt.Sprint("Is(", at, ")"), answers(is, e), answers(false, api.ErrNone))
	}
}

// Example is the chapter's.
func Example() {
	l, _ := ledger.Make(5)
	fmt.Println(l.Accept(8), l.Skip(9), l.Accept(10), l.Accept(12))
	fmt.Println(l.Accepted(), l.Skipped())
	// Output:
	// error 0 error 0 error 0 error 0
	// [{5 8} {9 12}] [{8 9}]
}

// 14.1, 14.2: a ledger begins, and ends, at each offset that may be, and no offset is in a span.
func TestMake(t *testing.T) {
	for _, from := range starts {
		l := made(t, from)
		same(t, "From, End", answers(l.From(), l.End()), answers(from, from))
		lists(t, "a new ledger", l, nil, nil)
		nowhere(t, l, from-1, from, from+1)
		nowhere(t, l, below...)
		nowhere(t, l, above...)
	}
}

// 14.1, P1: offsets below 0, and above MaxOffset, at which none begins.
func TestMakeRefused(t *testing.T) {
	for _, from := range slices.Concat(below, above) {
		if l, e := ledger.Make(from); l != nil || e != api.ErrArg {
			t.Errorf("Make(%d): %v, %d, want %d", from, l, int(e), int(api.ErrArg))
		}
	}
}

// P1, rule 2: a ledger that no call made answers ErrNil ahead of all other errors, or zero values; nothing is done.
func TestUnmade(t *testing.T) {
	for kind, l := range unmade() {
		for range 2 {
			for _, n := range slices.Concat(below, starts, above) {
				for _, call := range []string{"accept", "skip", "back"} {
					same(t, kind+": "+call, int(do(l, act{call, n})), int(api.ErrNil))
				}
				is, e := l.Is(n)
				same(t, kind+": Is", answers(is, e), answers(false, api.ErrNil))
			}
			same(t, kind+": From, End, spans", answers(l.From(), l.End(), len(l.Accepted()), len(l.Skipped())), answers(0, 0, 0, 0))
			if c := l.Copy(); c != nil {
				t.Errorf("%s: its copy is %v, want nil", kind, c)
			}
		}
	}
}

// 14.1, 14.2: one span of either kind, from each offset up to each behind it, that of one offset and those up to MaxOffset too.
func TestOneSpan(t *testing.T) {
	for _, from := range starts {
		for _, to := range slices.Concat(starts, []int{from + 1, from + 2, from + 3}) {
			if to <= from || to > api.MaxOffset {
				continue
			}
			for _, kind := range kinds {
				l := made(t, from, act{kind, to})
				span := []api.Span{{From: from, To: to}}
				same(t, "From, End", answers(l.From(), l.End()), answers(from, to))
				if kind == "accept" {
					lists(t, kind, l, span, nil)
				} else {
					lists(t, kind, l, nil, span)
				}
				for _, at := range []int{from, from + (to-from)/2, to - 1} {
					is, e := l.Is(at)
					same(t, fmt.Sprint("Is(", at, ")"), answers(is, e), answers(kind == "accept", 0))
				}
				nowhere(t, l, from-1, to, to+1)
				nowhere(t, l, below...)
				nowhere(t, l, above...)
			}
		}
	}
}

// 14.1, P2: spans that go back, or nowhere, or above MaxOffset, behind none, one and several.
func TestSpansRefused(t *testing.T) {
	for _, from := range starts {
		for n := 0; n < 4 && from+2*n <= api.MaxOffset; n++ {
			for _, first := range kinds {
				l := made(t, from, turns(first, from, n, 2)...)
				for _, kind := range kinds {
					for _, to := range slices.Concat(below, above, []int{0, from - 1, from, l.End() - 1, l.End()}) {
						refused(t, l, act{kind, to}, api.ErrArg)
					}
				}
			}
		}
	}
}

// 14.1: MaxOffset is the last end: behind it there is no span of either kind, till the ledger ends earlier.
func TestUpToMaxOffset(t *testing.T) {
	for _, first := range kinds {
		for _, last := range kinds {
			l := made(t, api.MaxOffset-3, act{first, api.MaxOffset - 1}, act{last, api.MaxOffset})
			for _, kind := range kinds {
				for _, to := range append([]int{api.MaxOffset - 1, api.MaxOffset}, above...) {
					refused(t, l, act{kind, to}, api.ErrArg)
				}
			}
			is, e := l.Is(api.MaxOffset - 1)
			same(t, "the last offset", answers(is, e), answers(last == "accept", 0))
			nowhere(t, l, api.MaxOffset, api.MaxOffset+1)
			done(t, l, act{"back", api.MaxOffset}, act{"back", api.MaxOffset - 1}, act{other(last), api.MaxOffset})
			is, e = l.Is(api.MaxOffset - 1)
			same(t, "the last offset, anew", answers(is, e), answers(last != "accept", 0))
		}
	}
}

// 14.1: spans of one kind that follow one another are one, as if the last one's end had been told at once.
func TestSpansOfOneKindAreOne(t *testing.T) {
	for _, from := range []int{0, 7, api.MaxOffset - 12} {
		for _, kind := range kinds {
			for n := range 4 {
				l := made(t, from, turns(kind, from, n, 2)...)
				once := made(t, from, turns(kind, from, n, 2)...)
				next := kind // of n spans the last one is of the other kind, if n is even
				if n%2 == 1 {
					next = other(kind)
				}
				for i := 1; i <= 6; i++ {
					done(t, l, act{next, from + 2*n + i})
				}
				done(t, once, act{next, from + 2*n + 6})
				same(t, "told", told(l), told(once))
				same(t, "spans", len(l.Accepted())+len(l.Skipped()), n+1)
			}
		}
	}
}

// 14.1: a thousand spans of one kind count as one, and leave room for as many others as there may be.
func TestSpansOfOneKindCountAsOne(t *testing.T) {
	for _, kind := range kinds {
		l := made(t, 3)
		for to := 4; to <= 1003; to++ {
			done(t, l, act{kind, to})
		}
		same(t, "spans", len(l.Accepted())+len(l.Skipped()), 1)
		done(t, l, turns(other(kind), 1003, api.MaxItems-1, 1)...)
		same(t, "spans", len(l.Accepted())+len(l.Skipped()), api.MaxItems)
	}
}

// 14.1, P2: up to MaxItems spans, and one more, beginning with either kind; the last one goes on where the ledger is full.
func TestFull(t *testing.T) {
	for _, first := range kinds {
		l := made(t, 10)
		kind := first
		for n := range api.MaxItems {
			same(t, "spans", len(l.Accepted())+len(l.Skipped()), n)
			done(t, l, act{kind, 12 + 2*n})
			kind = other(kind)
		}
		for i := range 5 {
			end := 10 + 2*api.MaxItems + 10*i
			for _, to := range []int{end + 1, end + 2, end + 1000, api.MaxOffset} {
				refused(t, l, act{kind, to}, api.ErrFull)
			}
			done(t, l, act{other(kind), end + 10})
			same(t, "End, spans", answers(l.End(), len(l.Accepted())+len(l.Skipped())), answers(end+10, api.MaxItems))
		}
		if d := broken(l); d != "" {
			t.Error(d)
		}
		done(t, l, act{other(kind), api.MaxOffset})
		same(t, "End, spans", answers(l.End(), len(l.Accepted())+len(l.Skipped())), answers(api.MaxOffset, api.MaxItems))
	}
}

// 14.1, P1: of a full ledger ErrArg comes ahead of ErrFull, for either kind, also where it ends at MaxOffset.
func TestFullErrArgFirst(t *testing.T) {
	for _, first := range kinds {
		for _, from := range []int{0, 9, api.MaxOffset - api.MaxItems} {
			l := made(t, from, turns(first, from, api.MaxItems, 1)...)
			for _, kind := range kinds {
				for _, to := range slices.Concat(below, above, []int{0, from, l.End() - 1, l.End()}) {
					refused(t, l, act{kind, to}, api.ErrArg)
				}
			}
		}
	}
}

// 14.1: a full ledger has room again behind a rewind by which a span goes, and none behind one that cuts the last one only.
func TestFullBehindARewind(t *testing.T) {
	for _, first := range kinds {
		last := other(first) // MaxItems is even
		l := made(t, 0, turns(first, 0, api.MaxItems, 3)...)
		end := 3 * api.MaxItems
		done(t, l, act{"back", end}, act{"back", end - 1}, act{"back", end - 2})
		refused(t, l, act{first, end}, api.ErrFull)
		done(t, l, act{last, end})
		refused(t, l, act{first, end + 1}, api.ErrFull)
		done(t, l, act{"back", end - 3}) // the last one goes: what is left ends with the first one's kind
		same(t, "spans", len(l.Accepted())+len(l.Skipped()), api.MaxItems-1)
		done(t, l, act{first, end - 1}, act{last, end})
		refused(t, l, act{first, end + 1}, api.ErrFull)
		done(t, l, act{"back", 0})
		done(t, l, turns(last, 0, api.MaxItems, 1)...)
		refused(t, l, act{last, end}, api.ErrFull)
	}
}

// 14.1: of ledgers of all sorts, a rewind to each offset leaves what a ledger is that never went further, which goes on as that one does.
func TestBack(t *testing.T) {
	for _, from := range []int{0, 4, api.MaxOffset - 20} {
		for _, first := range kinds {
			for n := range 6 {
				for each := 1; each <= 3; each++ {
					calls := turns(first, from, n, each)
					for to := from; to <= from+n*each; to++ {
						for _, next := range []act{{"accept", to + 1}, {"accept", to + 4}, {"skip", to + 1}, {"skip", to + 4}, {"back", to}, {"back", from}, {"back", to - 1}} {
							l, short := made(t, from, calls...), made(t, from)
							for _, c := range calls {
								if short.End() < to {
									done(t, short, act{c.call, min(c.to, to)})
								}
							}
							done(t, l, act{"back", to})
							same(t, fmt.Sprint("back to ", to, " behind ", calls), told(l), told(short))
							same(t, fmt.Sprint(next, " behind it"), answers(do(l, next), told(l)), answers(do(short, next), told(short)))
						}
					}
				}
			}
		}
	}
}

// 14.1: the rewinds that the chapter sets apart: to the end, into the last span, to where it begins, into one ahead of it, and to where the ledger begins.
func TestBackByHand(t *testing.T) {
	calls := []act{{"accept", 8}, {"skip", 10}, {"accept", 14}}
	for _, c := range []struct {
		to                int
		accepted, skipped []api.Span
	}{
		{14, []api.Span{{From: 5, To: 8}, {From: 10, To: 14}}, []api.Span{{From: 8, To: 10}}},
		{13, []api.Span{{From: 5, To: 8}, {From: 10, To: 13}}, []api.Span{{From: 8, To: 10}}},
		{11, []api.Span{{From: 5, To: 8}, {From: 10, To: 11}}, []api.Span{{From: 8, To: 10}}},
		{10, []api.Span{{From: 5, To: 8}}, []api.Span{{From: 8, To: 10}}},
		{9, []api.Span{{From: 5, To: 8}}, []api.Span{{From: 8, To: 9}}},
		{8, []api.Span{{From: 5, To: 8}}, nil},
		{6, []api.Span{{From: 5, To: 6}}, nil},
		{5, nil, nil},
	} {
		l := made(t, 5, calls...)
		same(t, "Back", int(l.Back(c.to)), 0)
		same(t, "From, End", answers(l.From(), l.End()), answers(5, c.to))
		lists(t, fmt.Sprint("behind Back(", c.to, ")"), l, c.accepted, c.skipped)
		nowhere(t, l, 3, 4, c.to, c.to+1, 14)
	}
}

// 14.1: behind a rewind that cut a span, or ended with a whole one: the same kind makes it longer, the other one is a span of its own.
func TestOnBehindARewind(t *testing.T) {
	for _, c := range []struct {
		to                int
		next              string
		accepted, skipped []api.Span
	}{
		{12, "accept", []api.Span{{From: 5, To: 8}, {From: 10, To: 20}}, []api.Span{{From: 8, To: 10}}},
		{12, "skip", []api.Span{{From: 5, To: 8}, {From: 10, To: 12}}, []api.Span{{From: 8, To: 10}, {From: 12, To: 20}}},
		{10, "accept", []api.Span{{From: 5, To: 8}, {From: 10, To: 20}}, []api.Span{{From: 8, To: 10}}},
		{10, "skip", []api.Span{{From: 5, To: 8}}, []api.Span{{From: 8, To: 20}}},
		{9, "accept", []api.Span{{From: 5, To: 8}, {From: 9, To: 20}}, []api.Span{{From: 8, To: 9}}},
		{9, "skip", []api.Span{{From: 5, To: 8}}, []api.Span{{From: 8, To: 20}}},
		{8, "accept", []api.Span{{From: 5, To: 20}}, nil},
		{8, "skip", []api.Span{{From: 5, To: 8}}, []api.Span{{From: 8, To: 20}}},
		{5, "accept", []api.Span{{From: 5, To: 20}}, nil},
		{5, "skip", nil, []api.Span{{From: 5, To: 20}}},
	} {
		l := made(t, 5, act{"accept", 8}, act{"skip", 10}, act{"accept", 14}, act{"back", c.to}, act{c.next, 20})
		lists(t, fmt.Sprint("back to ", c.to, ", ", c.next), l, c.accepted, c.skipped)
	}
}

// 14.1, P1, P2: a rewind below 0, which is ahead of where it begins too; ahead of that; behind its end, above MaxOffset too.
func TestBackRefused(t *testing.T) {
	for _, from := range starts {
		for n := 0; n < 4 && from+2*n <= api.MaxOffset; n++ {
			l := made(t, from, turns("skip", from, n, 2)...)
			for _, to := range below {
				refused(t, l, act{"back", to}, api.ErrArg)
			}
			for _, to := range append([]int{0, 1, from / 2, from - 2, from - 1}, l.End()+1, l.End()+2, l.End()+1000) {
				if to >= 0 && (to < from || to > l.End()) {
					refused(t, l, act{"back", to}, api.ErrWindow)
				}
			}
			for _, to := range above {
				refused(t, l, act{"back", to}, api.ErrWindow)
			}
		}
	}
}

// 14.5: a rewind to its end changes nothing, neither at once nor later on: of ledgers without spans, with some, of full ones, and at MaxOffset.
func TestBackToItsEnd(t *testing.T) {
	for _, from := range []int{0, 6, api.MaxOffset - api.MaxItems, api.MaxOffset} {
		for _, n := range []int{0, 1, 2, 3, api.MaxItems - 1, api.MaxItems} {
			for _, first := range kinds {
				if from+n > api.MaxOffset {
					continue
				}
				for _, next := range []act{{"accept", from + n + 2}, {"skip", from + n + 2}, {"back", from + n}, {"back", from + n - 1}, {"back", from}} {
					l, twin := made(t, from, turns(first, from, n, 1)...), made(t, from, turns(first, from, n, 1)...)
					for range 3 {
						same(t, "Back", int(l.Back(l.End())), 0)
						same(t, "what is told behind it", told(l), told(twin))
					}
					same(t, fmt.Sprint(next), answers(do(l, next), told(l)), answers(do(twin, next), told(twin)))
				}
			}
		}
	}
}

// 14.2, 14.3: each offset from where the ledger begins up to its end is in just one span, whose kind Is tells; no other one is in any.
func TestIs(t *testing.T) {
	for _, from := range []int{0, 3, api.MaxOffset - 3*api.MaxItems} {
		for _, n := range []int{0, 1, 2, 7, api.MaxItems} {
			for each := 1; each <= 3; each++ {
				l := made(t, from, turns("accept", from, n, each)...)
				spans, accepted := all(l)
				same(t, "spans", len(spans), n)
				for at := from - 3; at < from+n*each+3; at++ {
					in := []int{}
					for i, s := range spans {
						if s.From <= at && at < s.To {
							in = append(in, i)
						}
					}
					if at < from || at >= from+n*each {
						same(t, fmt.Sprint("spans with ", at), len(in), 0)
						nowhere(t, l, at)
						continue
					}
					same(t, fmt.Sprint("spans with ", at), in, []int{(at - from) / each})
					is, e := l.Is(at)
					same(t, fmt.Sprint("Is(", at, ")"), answers(is, e), answers(accepted[in[0]], 0))
					same(t, fmt.Sprint("Is(", at, ")"), is, (at-from)/each%2 == 0)
				}
			}
		}
	}
}

// Rule 4: spans that are handed out are the caller's own: neither the ledger's nor one another's, nor is their room.
func TestSpansAreTheCallers(t *testing.T) {
	for _, n := range []int{1, 2, 5, 8, api.MaxItems} {
		l := made(t, 2, turns("accept", 2, n, 2)...)
		was := told(l)
		for _, list := range []func() []api.Span{l.Accepted, l.Skipped} {
			first, second := list(), list()
			want := slices.Clone(second)
			longer := append(first, api.Span{From: 70, To: 71})
			for i := range first[:cap(first)] {
				first[:cap(first)][i] = api.Span{From: 72, To: 73}
			}
			same(t, "the other list", second, want)
			same(t, "the list again", list(), want)
			same(t, "what is told behind changes of lists", told(l), was)
			done(t, l, act{"back", 2}, act{"skip", 5}, act{"accept", 7}, act{"back", 2})
			same(t, "an elder list, of a ledger that went back", answers(second, len(longer)), answers(want, len(want)+1))
			done(t, l, turns("accept", 2, n, 2)...)
		}
	}
}

// 14.2: a copy is told as the ledger is; what is done to the one shows in the other nowhere, whichever goes on, or back, first.
func TestCopy(t *testing.T) {
	for _, from := range []int{0, 6} {
		for n := range 10 {
			for _, first := range kinds {
				for to := from; to <= from+2*n; to++ { // behind a rewind there is room to be written into
					calls := append(turns(first, from, n, 2), act{"back", to})
					for _, one := range []act{{"accept", to + 3}, {"skip", to + 3}, {"back", from}, {"back", to}} {
						l := made(t, from, calls...)
						c := l.Copy()
						was := told(l)
						same(t, "the copy", told(c), was)
						done(t, c, one)
						now := told(c)
						same(t, "the ledger behind what was done to its copy", told(l), was)
						for _, two := range []act{{"skip", to + 5}, {"accept", to + 7}, {"skip", to + 9}, {"back", from}} {
							done(t, l, two)
							same(t, "the copy behind what was done to the ledger", told(c), now)
						}
						same(t, "a ledger without spans", answers(l.From(), l.End(), len(l.Accepted()), len(l.Skipped())), answers(from, from, 0, 0))
					}
				}
			}
		}
	}
}

// 14.2: copies of copies, of which each goes on by itself; that of a full ledger is full, that of one without spans has none.
func TestCopiesOfCopies(t *testing.T) {
	l := made(t, 4)
	list := []*ledger.Ledger{l}
	for i := range api.MaxItems + 5 {
		c := list[len(list)-1].Copy()
		same(t, "the copy", told(c), told(list[len(list)-1]))
		if i < api.MaxItems {
			done(t, c, act{kinds[i%2], 5 + i})
		} else {
			refused(t, c, act{kinds[0], 5 + i}, api.ErrFull)
		}
		list = append(list, c)
	}
	for i, c := range list {
		same(t, "From, End, spans", answers(c.From(), c.End(), len(c.Accepted())+len(c.Skipped())), answers(4, min(4+i, 4+api.MaxItems), min(i, api.MaxItems)))
	}
}

// 14.1: two ledgers have nothing in common.
func TestLedgersApart(t *testing.T) {
	l, twin := made(t, 3, act{"skip", 5}, act{"accept", 9}), made(t, 3)
	was := told(l)
	done(t, twin, act{"accept", 7}, act{"skip", 20}, act{"back", 6}, act{"skip", 8}, act{"back", 3})
	same(t, "the first ledger", told(l), was)
}

// P2: asking changes nothing.
func TestAskingChangesNothing(t *testing.T) {
	for n := range 5 {
		l := made(t, 3, turns("accept", 3, n, 3)...)
		was := told(l)
		for _, at := range slices.Concat(below, starts, above) {
			l.Is(at)
		}
		l.Accepted()
		l.Skipped()
		l.Copy()
		l.From()
		l.End()
		same(t, "what is told", told(l), was)
		if d := broken(l); d != "" {
			t.Error(d)
		}
	}
}
