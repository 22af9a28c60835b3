package trie_test

import (
	"fmt"
	"slices"
	"strings"
	"testing"

	"postrider/api"
	"postrider/filter"
	"postrider/name"
	"postrider/trie"
)

// tree is what a tree does, the program's or the plain one.
type tree interface {
	Put(filter string, n int) api.Errno
	Take(filter string, n int) api.Errno
	Match(name string) ([]int, api.Errno)
	Of(filter string) ([]int, api.Errno)
	Filters() []string
	Pairs() int
	Nodes() int
	Drop(n int) int
}

// plain is a tree as the document's words say it, to hold the program's against: its pairs, and nothing else.
type plain struct{ pairs []pair }

func (p *plain) Put(s string, n int) api.Errno {
	switch {
	case filter.Check(s) != api.OK:
		return 90
	case n < 0 || n > 255:
		return 2
	case slices.Contains(p.pairs, pair{s, n}):
		return 6
	case len(p.pairs) == 256:
		return 4
	}
	p.pairs = append(p.pairs, pair{s, n})
	return 0
}

func (p *plain) Take(s string, n int) api.Errno {
	switch {
	case filter.Check(s) != api.OK:
		return 90
	case n < 0 || n > 255:
		return 2
	case !slices.Contains(p.pairs, pair{s, n}):
		return 5
	}
	p.lose(func(q pair) bool { return q == pair{s, n} })
	return 0
}

func (p *plain) Match(s string) ([]int, api.Errno) {
	if name.Check(s) != api.OK {
		return nil, 80
	}
	return p.numbers(func(q pair) bool { match, _ := filter.Match(q.filter, s); return match }), 0
}

func (p *plain) Of(s string) ([]int, api.Errno) {
	if filter.Check(s) != api.OK {
		return nil, 90
	}
	return p.numbers(func(q pair) bool { return q.filter == s }), 0
}

func (p *plain) Filters() []string {
	var list []string
	for _, q := range p.pairs {
		list = append(list, q.filter)
	}
	slices.Sort(list)
	return slices.Compact(list)
}

func (p *plain) Pairs() int { return len(p.pairs) }

func (p *plain) Nodes() int {
	beginnings := map[string]bool{}
	for _, q := range p.pairs {
		levels := strings.Split(q.filter, "/")
		for i := range levels {
			beginnings[strings.Join(levels[:i+1], "/")] = true
		}
	}
	return 1 + len(beginnings)
}

func (p *plain) Drop(n int) int { return p.lose(func(q pair) bool { return q.n == n }) }

// lose loses the pairs of which it is true, and is how many.
func (p *plain) lose(is func(pair) bool) int {
	was := len(p.pairs)
	p.pairs = slices.DeleteFunc(p.pairs, is)
	return was - len(p.pairs)
}

// numbers are those of the pairs of which it is true.
func (p *plain) numbers(is func(pair) bool) []int {
	var list []int
	for _, q := range p.pairs {
		if is(q) {
			list = append(list, q.n)
		}
	}
	slices.Sort(list)
	return slices.Compact(list)
}

// told is all that a tree tells: of itself, of its filters, and of names of many sorts.
func told(x tree) string {
	var b strings.Builder
	list := x.Filters()
	fmt.Fprint(&b, x.Pairs(), " pairs, ", x.Nodes(), " nodes, ", list)
	for _, s := range append(list, "a", "a/b", "+", "#") {
		numbers, e := x.Of(s)
		fmt.Fprint(&b, " ", s, numbers, int(e))
	}
	for _, s := range []string{"a", "b", "a/b", "b/a", "a/b/c", "a/0/b", "a/9/b", "/", "a/", "/a", "a//b", "$a", "$a/b", "a!b", "a/b/c/d/e/f/g/h"} {
		numbers, e := x.Match(s)
		fmt.Fprint(&b, " ", s, numbers, int(e))
	}
	return b.String()
}

// act is one call that changes a tree, by its name.
type act struct {
	call   string
	filter string
	n      int
}

// done is what a tree answers to a call.
func done(x tree, c act) int {
	switch c.call {
	case "put":
		return int(x.Put(c.filter, c.n))
	case "take":
		return int(x.Take(c.filter, c.n))
	}
	return x.Drop(c.n)
}

// hold does a call of both trees, and holds one's answer against the other's.
func hold(t *testing.T, p *plain, x *trie.Tree, c act, past []act) {
	t.Helper()
	if got, want := done(x, c), done(p, c); got != want {
		t.Fatalf("%v behind %v: %d, want %d", c, past, got, want)
	}
}

// holdAll holds all that one tree tells against all that the other one does.
func holdAll(t *testing.T, p *plain, x *trie.Tree, past []act) {
	t.Helper()
	if got, want := told(x), told(p); got != want {
		t.Fatalf("behind %v: %s, want %s", past, got, want)
	}
}

// 10.1 to 10.4, P1, P2: each history of five calls answers and leaves what the document's words say.
func TestHistories(t *testing.T) {
	acts := []act{
		{"put", "a", 1}, {"put", "a/b", 1}, {"put", "a/+", 2}, {"put", "#", 1}, {"put", "a/b", 2},
		{"take", "a", 1}, {"take", "a/b", 1}, {"take", "a/+", 2},
		{"drop", "", 1}, {"drop", "", 2},
	}
	all := 1
	for range 5 {
		all *= len(acts)
	}
	for history := range all { // its digits are its calls
		p, x := &plain{}, trie.Make()
		past := make([]act, 0, 5)
		for rest := history; len(past) < cap(past); rest /= len(acts) {
			c := acts[rest%len(acts)]
			hold(t, p, x, c, past)
			past = append(past, c)
		}
		holdAll(t, p, x, past) // what is behind fewer calls, another history ends with
	}
}

// ruled is a fixed rule that picks numbers from 0 to n - 1.
func ruled(seed uint32) func(n int) int {
	return func(n int) int {
		seed = seed*1664525 + 1013904223
		return int(seed>>8) % n
	}
}

// chosen is a call by a rule: of so many in ten calls a Put, of the others most a Take of a pair that there is.
func chosen(p *plain, filters []string, numbers, puts int, below func(int) int) act {
	c := act{"put", filters[below(len(filters))], below(numbers)}
	switch kind := below(10); {
	case below(40) == 0:
		c.n = below(5) * 128 // of which some may not be
	case below(40) == 0:
		c.filter += "+" // which makes most of them none
	case kind < puts:
	case below(30) == 0:
		c = act{call: "drop", n: c.n}
	case kind < 9 && len(p.pairs) > 0:
		q := p.pairs[below(len(p.pairs))]
		c = act{"take", q.filter, q.n}
	default:
		c.call = "take"
	}
	return c
}

// 10.1 to 10.4, P1, P2: long histories from a fixed rule, of few and of many filters and numbers; where most calls put the tree becomes full.
func TestLongHistories(t *testing.T) {
	below := ruled(11)
	for _, list := range [][]string{{"a", "a/b"}, {"a/b/c", "a/+", "a/#", "#", "+/b", "a", "a/b"}, filters()} {
		for _, numbers := range []int{2, 20, api.MaxItems} {
			for _, puts := range []int{3, 5, 8} {
				p, x := &plain{}, trie.Make()
				full := 0
				for i := range 1500 {
					c := chosen(p, list, numbers, puts, below)
					hold(t, p, x, c, nil)
					if i%7 == 0 || len(p.pairs) < 5 {
						holdAll(t, p, x, []act{c})
					}
					if len(p.pairs) == api.MaxItems {
						full++
					}
				}
				holdAll(t, p, x, nil)
				if full == 0 && puts == 8 && numbers == api.MaxItems {
					t.Errorf("%d filters: never full", len(list))
				}
			}
		}
	}
}

// stirred is a list in another order, by a rule.
func stirred(list []pair, below func(int) int) []pair {
	list = slices.Clone(list)
	for i := range list {
		k := i + below(len(list)-i)
		list[i], list[k] = list[k], list[i]
	}
	return list
}

// 10.4: what is put and taken leaves the tree as it was: backwards, step by step, and in other orders, be it put on an empty tree or on another one.
func TestPutAndTaken(t *testing.T) {
	below := ruled(5)
	more := append(numbered(filters()...), pair{"a", 100}, pair{"a/b", 100}, pair{"#", 100}, pair{"a/b/c/d/e/f/g/h", 101})
	for _, first := range [][]pair{nil, {{"a", 200}}, {{"a/b", 201}, {"+/#", 201}}, {{"a/b/c/d/e/f/g/+", 200}}, {{"x/y/z", 202}, {"x/+", 202}, {"/", 203}}, several("#", upTo(100)[70:]...)} {
		x := made(t, first...)
		before := told(x)
		var steps []string
		for _, q := range more {
			steps = append(steps, told(x))
			put(t, x, q)
		}
		for i := len(more) - 1; i >= 0; i-- {
			take(t, x, more[i])
			if got := told(x); got != steps[i] {
				t.Fatalf("%v taken from %v: %s, was %s", more[i], first, got, steps[i])
			}
		}
		for range 20 {
			put(t, x, stirred(more, below)...)
			take(t, x, stirred(more, below)...)
			if got := told(x); got != before {
				t.Fatalf("put on %v and taken: %s, was %s", first, got, before)
			}
		}
	}
}

// 10.4: each filter alone is put on a tree of all the others, and taken: by Take and by Drop.
func TestEachPutAndTaken(t *testing.T) {
	pairs := numbered(filters()...)
	for i, q := range pairs {
		x := made(t, slices.Delete(slices.Clone(pairs), i, i+1)...)
		before := told(x)
		put(t, x, q)
		take(t, x, q)
		if got := told(x); got != before {
			t.Errorf("%v put and taken: %s, was %s", q, got, before)
		}
		put(t, x, q)
		holds(t, "Drop", answers(x.Drop(q.n)), 1)
		if got := told(x); got != before {
			t.Errorf("%v put and dropped: %s, was %s", q, got, before)
		}
	}
}

// orders are all orders of a list.
func orders(list []pair) [][]pair {
	if len(list) == 0 {
		return [][]pair{nil}
	}
	var all [][]pair
	for i := range list {
		for _, rest := range orders(slices.Delete(slices.Clone(list), i, i+1)) {
			all = append(all, append([]pair{list[i]}, rest...))
		}
	}
	return all
}

// 10.5: all orders of six pairs make the same tree; taken in all orders they leave the same one.
func TestAllOrders(t *testing.T) {
	for _, list := range [][]pair{
		{{"a", 1}, {"a/b", 2}, {"a/+", 1}, {"a/#", 3}, {"#", 2}, {"a/b", 1}},
		{{"a/b/c", 9}, {"a/b", 8}, {"a", 7}, {"a/b/c", 6}, {"b/a", 5}, {"a!b", 4}},
		{{"/", 0}, {"//", 255}, {"+/", 0}, {"/+", 1}, {"$a", 0}, {"/#", 0}},
	} {
		want := told(made(t, list...))
		both := made(t, append(slices.Clone(list), pair{"a/x", 77})...)
		for _, order := range orders(list) {
			if got := told(made(t, order...)); got != want {
				t.Fatalf("put in order %v: %s, want %s", order, got, want)
			}
			take(t, both, order...)
			if both.Nodes() != 3 || both.Pairs() != 1 {
				t.Fatalf("taken in order %v: %s", order, told(both))
			}
			put(t, both, list...)
		}
	}
}

// 10.5: many pairs, up to the most, in orders from a fixed rule.
func TestManyOrders(t *testing.T) {
	below := ruled(3)
	for _, list := range [][]pair{numbered(filters()...), most(1), most(16), several("a/#", upTo(api.MaxItems)...)} {
		want := told(made(t, list...))
		for range 30 {
			if got := told(made(t, stirred(list, below)...)); got != want {
				t.Fatalf("in another order: %s, want %s", got, want)
			}
		}
	}
}
