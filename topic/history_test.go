package topic_test

import (
	"fmt"
	"slices"
	"strings"
	"testing"

	"postrider/api"
	"postrider/topic"
)

// plainPlace is a place that was claimed once.
type plainPlace struct {
	handle    int
	published bool
}

// plainPart is a partition as the document's words say it: all that was ever claimed lies at its offset for good.
type plainPart struct {
	room   int
	over   bool
	head   int
	places []plainPlace
}

// plainTopic is a topic as the document's words say it.
type plainTopic struct {
	name  string
	parts []*plainPart
}

// plain is a set with its pool as the document's words say it, to hold the program's against. No count is kept: each is counted anew. The top of the stack is the first.
type plain struct {
	size   int
	gens   []int
	stack  []int
	topics []plainTopic
	held   []int // what others read or took of the pool, and did not give back
	seen   map[int]int
}

// act is one call: of the set, of the partition at a place, or of the pool.
type act struct {
	call                string
	name, key           string
	parts, room, policy int
	place               api.Place
	n                   int
}

// answer is what a call tells: a place, two numbers, and an error's number.
type answer struct {
	place api.Place
	a, b  int
	err   int
}

func (x *plainPart) full() bool { return len(x.places)-x.head == x.room }

// noName asks if the document's words make the text none.
func noName(s string) bool {
	return s == "" || len(s) > 64 || strings.Count(s, "/") > 7 || strings.ContainsAny(s, "+# ")
}

// count is how many places and others have the handle.
func (p *plain) count(h int) int {
	n := 0
	for _, t := range p.topics {
		for _, x := range t.parts {
			for _, place := range x.places[x.head:] {
				if place.handle == h {
					n++
				}
			}
		}
	}
	for _, held := range p.held {
		if held == h {
			n++
		}
	}
	return n
}

// less frees the handle's slot, if nobody has it any more.
func (p *plain) less(h int) {
	if p.count(h) == 0 {
		slot := (h - 1) % 128
		p.gens[slot]++
		p.stack = slices.Insert(p.stack, 0, slot)
	}
}

// next takes the top of the stack.
func (p *plain) next() int {
	slot := p.stack[0]
	p.stack = slices.Delete(p.stack, 0, 1)
	return 128*p.gens[slot] + slot + 1
}

// goes lets the head's place go.
func (p *plain) goes(x *plainPart) {
	h := x.places[x.head].handle
	x.head++
	p.less(h)
}

func (p *plain) open(c act) answer {
	at := slices.IndexFunc(p.topics, func(t plainTopic) bool { return t.name == c.name })
	switch {
	case noName(c.name):
		return answer{err: 80}
	case c.parts < 1 || c.parts > 8 || c.room < 1 || c.room > 64 || c.policy != 0 && c.policy != 1:
		return answer{err: 2}
	case at >= 0:
		return answer{err: 6}
	case len(p.topics) == 16:
		return answer{err: 4}
	}
	t := plainTopic{name: c.name}
	for range c.parts {
		t.parts = append(t.parts, &plainPart{room: c.room, over: c.policy == 1})
	}
	p.topics = append(p.topics, t)
	return answer{a: len(p.topics) - 1}
}

func (p *plain) find(c act) answer {
	if noName(c.name) {
		return answer{err: 80}
	}
	for i, t := range p.topics {
		if t.name == c.name {
			return answer{a: i}
		}
	}
	return answer{err: 5}
}

func (p *plain) route(c act) answer {
	found := p.find(c)
	switch {
	case found.err != 0:
		return found
	case len(c.key) > 64:
		return answer{err: 3}
	}
	return answer{place: api.Place{Topic: found.a, Part: goes(len(p.topics[found.a].parts), []byte(c.key))}}
}

// claim claims a place where the key goes.
func (p *plain) claim(c act) answer {
	to := p.route(c)
	if to.err != 0 {
		return to
	}
	x := p.topics[to.place.Topic].parts[to.place.Part]
	switch {
	case c.n < 0:
		return answer{err: 2}
	case c.n > p.size:
		return answer{err: 3}
	case x.full() && !(x.over && x.places[x.head].published):
		return answer{err: 60}
	case len(p.stack) == 0 && !(x.full() && p.count(x.places[x.head].handle) == 1):
		return answer{err: 50}
	}
	if x.full() {
		p.goes(x)
	}
	x.places = append(x.places, plainPlace{handle: p.next()})
	to.a, to.b = len(x.places)-1, x.places[len(x.places)-1].handle
	return to
}

// in is what the document says of a call of a partition, which publishes, reads, or trims.
func (p *plain) in(x *plainPart, c act) answer {
	switch {
	case c.n < 0 || c.call == "trim" && c.n > len(x.places):
		return answer{err: 2}
	case c.call == "trim":
		for at := x.head; at < c.n; at++ {
			if !x.places[at].published {
				return answer{err: 8}
			}
		}
		gone := max(0, c.n-x.head)
		for range gone {
			p.goes(x)
		}
		return answer{a: gone}
	case c.n < x.head:
		return answer{err: 61}
	case c.n >= len(x.places):
		return answer{err: 5}
	}
	place := &x.places[c.n]
	switch {
	case c.call == "publish" && place.published:
		return answer{err: 6}
	case c.call == "publish":
		place.published = true
		return answer{}
	case !place.published:
		return answer{err: 8}
	}
	p.held = append(p.held, place.handle)
	return answer{a: place.handle}
}

// handle is the one at a place among those that are held; 0: none.
func (p *plain) handle(place int) int {
	if place >= 0 && place < len(p.held) {
		return p.held[place]
	}
	return 0
}

// do is what the document says that the call answers.
func (p *plain) do(c act) answer {
	switch c.call {
	case "open":
		return p.open(c)
	case "find":
		return p.find(c)
	case "route":
		return p.route(c)
	case "claim":
		return p.claim(c)
	case "take":
		if len(p.stack) == 0 {
			return answer{err: 50}
		}
		p.held = append(p.held, p.next())
		return answer{a: p.held[len(p.held)-1]}
	case "drop":
		h := p.handle(c.n)
		if h == 0 {
			return answer{err: 2}
		}
		p.held = slices.Delete(p.held, c.n, c.n+1)
		p.less(h)
		return answer{a: p.count(h)}
	}
	if c.place.Topic < 0 || c.place.Topic >= len(p.topics) || c.place.Part < 0 || c.place.Part >= len(p.topics[c.place.Topic].parts) {
		return answer{err: 5}
	}
	return p.in(p.topics[c.place.Topic].parts[c.place.Part], c)
}

// done is the program's answer to the call, in the same form. What is held is told by the plain one.
func done(s *topic.Set, p *plain, c act) answer {
	var a answer
	var e api.Errno
	switch c.call {
	case "open":
		a.a, e = s.Open(c.name, c.parts, c.room, c.policy)
	case "find":
		a.a, e = s.Find(c.name)
	case "route":
		a.place, e = s.Route(c.name, []byte(c.key))
	case "claim":
		a.place, a.a, a.b, e = s.Claim(c.name, []byte(c.key), c.n)
	case "take":
		a.a, e = s.Pool().Take(1)
	case "drop":
		a.a, e = s.Pool().Drop(p.handle(c.n))
	default:
		a, e = doneIn(s, c)
	}
	a.err = int(e)
	return a
}

// doneIn is the answer of the partition at the call's place; of none, why there is none.
func doneIn(s *topic.Set, c act) (answer, api.Errno) {
	var a answer
	x, e := s.Part(c.place)
	switch {
	case e != api.OK:
	case c.call == "publish":
		e = x.Publish(c.n)
	case c.call == "read":
		a.a, e = x.Read(c.n)
	case c.call == "trim":
		a.a, e = x.Trim(c.n)
	}
	return a, e
}

// poolDiffers is where the pool is not as the plain one; "": nowhere.
func poolDiffers(s *topic.Set, p *plain) string {
	if !slices.Equal(s.Pool().Free(), p.stack) {
		return fmt.Sprint("free: ", s.Pool().Free(), ", want ", p.stack)
	}
	for slot, gen := range p.gens {
		h := 128*gen + slot + 1
		if s.Pool().Count(slot) != p.count(h) || s.Pool().Gen(slot) != gen {
			return fmt.Sprint("slot ", slot, ": ", s.Pool().Count(slot), s.Pool().Gen(slot), ", want ", p.count(h), gen)
		}
	}
	return ""
}

// partDiffers is where the partition at a place is not as the plain one; "": nowhere.
func partDiffers(s *topic.Set, p *plain, place api.Place) string {
	x, e := s.Part(place)
	if e != api.OK {
		return fmt.Sprint("Part(", place, "): ", int(e))
	}
	want := p.topics[place.Topic].parts[place.Part]
	handles, ready := []int{}, len(want.places)
	for at := len(want.places) - 1; at >= want.head; at-- {
		handles = slices.Insert(handles, 0, want.places[at].handle)
		if !want.places[at].published {
			ready = at
		}
	}
	if x.Head() != want.head || x.Tail() != len(want.places) || x.Ready(0) != ready || !slices.Equal(x.Handles(), handles) {
		return fmt.Sprint(place, ": ", x.Head(), x.Tail(), x.Ready(0), x.Handles(), ", want ", want.head, len(want.places), ready, handles)
	}
	return ""
}

// differs is where the program's set is not as the plain one; "": nowhere.
func differs(s *topic.Set, p *plain) string {
	if s.Topics() != len(p.topics) || s.Name(-1) != "" || s.Name(len(p.topics)) != "" || len(s.Places(-1, len(p.topics))) > 0 {
		return fmt.Sprint("topics: ", s.Topics(), ", want ", len(p.topics))
	}
	for i, t := range p.topics {
		number, e := s.Find(t.name)
		if number != i || e != api.OK || s.Name(i) != t.name || len(s.Places(i)) != len(t.parts) {
			return fmt.Sprint("topic ", i, ": ", number, int(e), s.Name(i), s.Places(i), ", want ", t.name, len(t.parts))
		}
		for k, place := range s.Places(i) {
			if place != (api.Place{Topic: i, Part: k}) {
				return fmt.Sprint("place ", k, " of topic ", i, ": ", place)
			}
			if d := partDiffers(s, p, place); d != "" {
				return d
			}
		}
	}
	return poolDiffers(s, p)
}

// both makes a set, and a plain one.
func both(t *testing.T, slots, size int) (*plain, *topic.Set) {
	t.Helper()
	p := &plain{size: size, gens: make([]int, slots), seen: map[int]int{}}
	for slot := range slots {
		p.stack = append(p.stack, slot)
	}
	return p, made(t, slots, size)
}

// hold does a call of both, and holds one's answer against the other's.
func hold(t *testing.T, p *plain, s *topic.Set, c act, past []act) {
	t.Helper()
	got := done(s, p, c)
	want := p.do(c)
	p.seen[want.err]++
	if got != want {
		t.Fatalf("%v behind %v: %v, want %v", c, past, got, want)
	}
}

// histories does all histories of so many calls, each behind the same first ones.
func histories(t *testing.T, slots, calls int, first, acts []act) {
	t.Helper()
	all := 1
	for range calls {
		all *= len(acts)
	}
	for history := range all { // its digits are its calls
		p, s := both(t, slots, 2)
		past := make([]act, 0, len(first)+calls)
		for _, c := range first {
			hold(t, p, s, c, past)
			past = append(past, c)
		}
		for rest := history; len(past) < cap(past); rest /= len(acts) {
			c := acts[rest%len(acts)]
			hold(t, p, s, c, past)
			past = append(past, c)
		}
		if d := differs(s, p); d != "" { // what is behind fewer calls, another history ends with
			t.Fatalf("behind %v: %s", past, d)
		}
	}
}

// 13.1 to 13.5, P1, P2: each history of five calls, from no topics on, over a pool of two envelopes, answers and leaves what the document's words say.
func TestHistories(t *testing.T) {
	histories(t, 2, 5, nil, []act{
		{call: "open", name: "a", parts: 2, room: 1, policy: api.Over}, {call: "open", name: "b", parts: 1, room: 2, policy: api.Block},
		{call: "open", name: "b", parts: 9, room: 1}, {call: "claim", name: "a", key: "0", n: 1}, {call: "claim", name: "a", key: "1", n: 2},
		{call: "claim", name: "b", n: 0}, {call: "publish"}, {call: "publish", place: api.Place{Part: 1}}, {call: "find", name: "b"},
	})
}

// 13.2, 13.4, 13.5, P1, P2: each history of five calls of two topics that are open, over a pool of two envelopes.
func TestHistoriesOfTwoTopics(t *testing.T) {
	first := []act{{call: "open", name: "a", parts: 2, room: 1, policy: api.Over}, {call: "open", name: "b", parts: 1, room: 2, policy: api.Over}}
	histories(t, 2, 5, first, []act{
		{call: "claim", name: "a", key: "0", n: 1}, {call: "claim", name: "a", key: "1", n: 2}, {call: "claim", name: "b", n: 1},
		{call: "publish"}, {call: "publish", place: api.Place{Part: 1}}, {call: "publish", place: api.Place{Topic: 1}},
		{call: "read"}, {call: "drop"}, {call: "trim", n: 1},
	})
}

// chosen is a call by a rule that below picks by: most of topics and places that there are, and of the first of them, some of others.
func chosen(p *plain, below func(int) int) act {
	texts := slices.Concat(names, []string{"", "a b", "a/+", strings.Repeat("n", 65)})
	c := act{name: texts[below(len(texts))], key: strings.Repeat("k", below(3)), n: below(p.size + 1)}
	if len(p.topics) > 0 && below(8) > 0 {
		c.name = p.topics[below(min(len(p.topics), 1+below(16)))].name
	}
	if below(8) == 0 {
		c.key, c.n = strings.Repeat("k", below(70)), below(p.size+4)-2
	}
	switch below(16) {
	case 0:
		c.call, c.parts, c.room, c.policy = "open", 1+below(2), 1+below(3), below(2)
		c.name = texts[below(len(texts))]
		if below(4) == 0 {
			c.parts, c.room, c.policy = below(10), below(66), below(3)
		}
	case 1:
		c.call = "find"
	case 2:
		c.call = "route"
	case 3:
		c.call = "take"
	case 4, 5:
		c.call, c.n = "drop", below(len(p.held)+1)
	case 6, 7, 8, 9:
		c.call = "claim"
	default:
		c.call = []string{"publish", "publish", "publish", "read", "trim"}[below(5)]
		c.place = spot(p, below)
		c.n = near(p, c.place, below)
	}
	return c
}

// spot is a place: most often one that has something in its window, at times none.
func spot(p *plain, below func(int) int) api.Place {
	busy := []api.Place{}
	for i, t := range p.topics {
		for k, x := range t.parts {
			if x.head < len(x.places) {
				busy = append(busy, api.Place{Topic: i, Part: k})
			}
		}
	}
	if len(busy) > 0 && below(8) > 0 {
		return busy[below(len(busy))]
	}
	return api.Place{Topic: below(len(p.topics)+2) - 1, Part: below(4) - 1}
}

// near is an offset about the window of a partition, if there is one at the place.
func near(p *plain, at api.Place, below func(int) int) int {
	if at.Topic < 0 || at.Topic >= len(p.topics) || at.Part < 0 || at.Part >= len(p.topics[at.Topic].parts) {
		return below(3)
	}
	x := p.topics[at.Topic].parts[at.Part]
	return x.head + below(len(x.places)-x.head+3) - 1
}

// 13.1 to 13.5, P1, P2: long histories from a fixed rule, over pools that are too small and that are not. Each error is met.
func TestLongHistories(t *testing.T) {
	seed := uint32(13)
	below := func(n int) int {
		seed = seed*1664525 + 1013904223
		return int(seed>>8) % n
	}
	for _, c := range []struct{ slots, size, calls int }{{1, 1, 3000}, {3, 2, 6000}, {12, 5, 8000}, {api.MaxSlots, api.MaxSize, 4000}} {
		p, s := both(t, c.slots, c.size)
		past := []act{}
		for range c.calls {
			a := chosen(p, below)
			hold(t, p, s, a, past)
			past = append(past, a)
			if d := differs(s, p); d != "" {
				t.Fatalf("behind %v: %s", past, d)
			}
		}
		for _, e := range []api.Errno{api.OK, api.ErrArg, api.ErrLong, api.ErrFull, api.ErrNone, api.ErrSame, api.ErrBusy, api.ErrWindow, api.ErrName} {
			if p.seen[int(e)] == 0 {
				t.Errorf("%v: no call met %d", c, int(e))
			}
		}
		if c.slots < 16 && p.seen[int(api.ErrPool)] == 0 || c.slots > 2 && p.seen[int(api.ErrRing)] == 0 {
			t.Errorf("%v: never without room, or without an envelope: %v", c, p.seen)
		}
	}
}
