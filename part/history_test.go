package part_test

import (
	"bytes"
	"fmt"
	"slices"
	"testing"

	"postrider/api"
	"postrider/part"
	"postrider/pool"
)

// plainPlace is a place that was claimed once.
type plainPlace struct {
	handle    int
	published bool
}

// plainPart is a partition as the document's words say it: all that was ever claimed lies at its offset for good.
type plainPart struct {
	room   int
	over   bool
	head   int
	places []plainPlace
}

// plain is a pool with its partitions and readers as the document's words say it, to hold the program's against. No count is kept: each is counted anew. The top of the stack is the first.
type plain struct {
	size  int
	gens  []int
	stack []int
	bytes map[int][]byte // of each handle that was ever given out
	parts []*plainPart
	held  []int // what was read, and not given back
	seen  map[int]int
}

// world is the program's pool and its partitions.
type world struct {
	pool  *pool.Pool
	parts []*part.Part
}

// act is one call: its name, the partition's number, a number (of bytes, an offset, a place among what is held), and bytes.
type act struct {
	call  string
	part  int
	n     int
	bytes []byte
}

// answer is what a call tells: numbers in a row, bytes, and an error's number.
type answer struct {
	numbers []int
	bytes   []byte
	err     int
}

func (a answer) is(b answer) bool {
	return slices.Equal(a.numbers, b.numbers) && bytes.Equal(a.bytes, b.bytes) && a.err == b.err
}

func (x *plainPart) full() bool { return len(x.places)-x.head == x.room }

// fault is the number of the error that an offset meets; 0: its place is in the window.
func (x *plainPart) fault(at int) int {
	switch {
	case at < 0:
		return 2
	case at < x.head:
		return 61
	case at >= len(x.places):
		return 5
	}
	return 0
}

// count is how many places and readers have the handle.
func (p *plain) count(h int) int {
	n := 0
	for _, x := range p.parts {
		for _, place := range x.places[x.head:] {
			if place.handle == h {
				n++
			}
		}
	}
	for _, held := range p.held {
		if held == h {
			n++
		}
	}
	return n
}

// less frees the handle's slot, if nobody has it any more.
func (p *plain) less(h int) {
	if p.count(h) == 0 {
		slot := (h - 1) % 128
		p.gens[slot]++
		p.stack = append([]int{slot}, p.stack...)
	}
}

// goes lets the head's place go.
func (p *plain) goes(x *plainPart) {
	h := x.places[x.head].handle
	x.head++
	p.less(h)
}

func (p *plain) claim(x *plainPart, n int) answer {
	switch {
	case n < 0:
		return answer{err: 2}
	case n > p.size:
		return answer{err: 3}
	case x.full() && !(x.over && x.places[x.head].published):
		return answer{err: 60}
	case len(p.stack) == 0 && !(x.full() && p.count(x.places[x.head].handle) == 1):
		return answer{err: 50}
	}
	if x.full() {
		p.goes(x)
	}
	h := 128*p.gens[p.stack[0]] + p.stack[0] + 1
	p.stack = p.stack[1:]
	p.bytes[h] = make([]byte, n)
	x.places = append(x.places, plainPlace{handle: h})
	return answer{numbers: []int{len(x.places) - 1, h}}
}

func (p *plain) trim(x *plainPart, to int) answer {
	if to < 0 || to > len(x.places) {
		return answer{err: 2}
	}
	gone := max(0, to-x.head)
	for _, place := range x.places[x.head : x.head+gone] {
		if !place.published {
			return answer{err: 8}
		}
	}
	for range gone {
		p.goes(x)
	}
	return answer{numbers: []int{gone}}
}

// at is what the document says of a call of a place that is in the window.
func (p *plain) at(place *plainPlace, c act) answer {
	switch {
	case (c.call == "fill" || c.call == "publish") && place.published:
		return answer{err: 6}
	case c.call == "fill" && len(c.bytes) != len(p.bytes[place.handle]):
		return answer{err: 2}
	case c.call == "fill":
		p.bytes[place.handle] = bytes.Clone(c.bytes)
		return answer{}
	case c.call == "publish":
		place.published = true
		return answer{}
	case !place.published:
		return answer{err: 8}
	case c.call == "read":
		p.held = append(p.held, place.handle)
		return answer{numbers: []int{place.handle}}
	}
	return answer{bytes: p.bytes[place.handle]}
}

// handle is the one at a place among those that are held; 0: none.
func (p *plain) handle(place int) int {
	if place < len(p.held) {
		return p.held[place]
	}
	return 0
}

// drop gives a handle back that is held.
func (p *plain) drop(place int) answer {
	h := p.handle(place)
	if h == 0 {
		return answer{err: 2}
	}
	p.held = slices.Delete(p.held, place, place+1)
	p.less(h)
	return answer{numbers: []int{p.count(h)}}
}

// do is what the document says that the call answers.
func (p *plain) do(c act) answer {
	x := p.parts[c.part]
	switch c.call {
	case "claim":
		return p.claim(x, c.n)
	case "trim":
		return p.trim(x, c.n)
	case "drop":
		return p.drop(c.n)
	}
	if e := x.fault(c.n); e != 0 {
		return answer{err: e}
	}
	return p.at(&x.places[c.n], c)
}

// numbers is an answer of these numbers; of an error alone, where they are zero, as they have to be beside one.
func numbers(e api.Errno, list ...int) answer {
	if e != api.OK && slices.Max(list) == 0 && slices.Min(list) == 0 {
		return answer{err: int(e)}
	}
	return answer{numbers: list, err: int(e)}
}

// done is the program's answer to the call, in the same form. What is held is told by the plain one.
func (w world) done(p *plain, c act) answer {
	x := w.parts[c.part]
	switch c.call {
	case "claim":
		at, h, e := x.Claim(c.n)
		return numbers(e, at, h)
	case "trim":
		n, e := x.Trim(c.n)
		return numbers(e, n)
	case "drop":
		n, e := w.pool.Drop(p.handle(c.n))
		return numbers(e, n)
	case "fill":
		return answer{err: int(x.Fill(c.n, c.bytes))}
	case "publish":
		return answer{err: int(x.Publish(c.n))}
	case "read":
		h, e := x.Read(c.n)
		return numbers(e, h)
	}
	b, e := x.Peek(c.n)
	return answer{bytes: b, err: int(e)}
}

// poolDiffers is where the pool is not as the plain one; "": nowhere.
func (w world) poolDiffers(p *plain) string {
	if !slices.Equal(w.pool.Free(), p.stack) {
		return fmt.Sprint("free: ", w.pool.Free(), ", want ", p.stack)
	}
	for slot, gen := range p.gens {
		h := 128*gen + slot + 1
		if w.pool.Count(slot) != p.count(h) || w.pool.Gen(slot) != gen {
			return fmt.Sprint("slot ", slot, ": ", w.pool.Count(slot), w.pool.Gen(slot), ", want ", p.count(h), gen)
		}
	}
	for _, h := range p.held {
		if b, e := w.pool.Bytes(h); !bytes.Equal(b, p.bytes[h]) || e != api.OK {
			return fmt.Sprint("read by ", h, ": ", b, int(e), ", want ", p.bytes[h])
		}
	}
	return ""
}

// partDiffers is where a partition is not as the plain one; "": nowhere.
func (w world) partDiffers(p *plain, k int) string {
	x, want := w.parts[k], p.parts[k]
	handles := []int{}
	for _, place := range want.places[want.head:] {
		handles = append(handles, place.handle)
	}
	if x.Head() != want.head || x.Tail() != len(want.places) || !slices.Equal(x.Handles(), handles) {
		return fmt.Sprint("head, tail, handles: ", x.Head(), x.Tail(), x.Handles(), ", want ", want.head, len(want.places), handles)
	}
	ready := len(want.places)
	for at := len(want.places); at >= want.head-1; at-- {
		if at >= want.head && at < len(want.places) && !want.places[at].published {
			ready = at
		}
		if x.Ready(at) != ready {
			return fmt.Sprint("Ready(", at, "): ", x.Ready(at), ", want ", ready)
		}
		c := act{call: "peek", part: k, n: at}
		if got, want := w.done(p, c), p.do(c); !got.is(want) {
			return fmt.Sprint("Peek(", at, "): ", got, ", want ", want)
		}
	}
	return ""
}

// differs is where the program's pool or a partition is not as the plain one; "": nowhere.
func (w world) differs(p *plain) string {
	d := w.poolDiffers(p)
	for k := range w.parts {
		if d == "" {
			d = w.partDiffers(p, k)
		}
	}
	return d
}

// kind is a room and a policy.
type kind struct{ room, policy int }

// both makes a pool with partitions over it, and a plain one.
func both(t *testing.T, slots, size int, kinds ...kind) (*plain, world) {
	t.Helper()
	p := &plain{size: size, gens: make([]int, slots), bytes: map[int][]byte{}, seen: map[int]int{}}
	for slot := range slots {
		p.stack = append(p.stack, slot)
	}
	w := world{pool: pooled(t, slots, size)}
	for _, k := range kinds {
		p.parts = append(p.parts, &plainPart{room: k.room, over: k.policy == api.Over})
		w.parts = append(w.parts, made(t, w.pool, k.room, k.policy))
	}
	return p, w
}

// hold does a call of both, and holds one's answer against the other's.
func hold(t *testing.T, p *plain, w world, c act, past []act) {
	t.Helper()
	got := w.done(p, c)
	want := p.do(c)
	p.seen[want.err]++
	if !got.is(want) {
		t.Fatalf("%v behind %v: %v, want %v", c, past, got, want)
	}
}

// 12.1 to 12.6, P1, P2: each history of five calls, of two partitions over a pool of two envelopes, answers and leaves what the document's words say.
func TestHistories(t *testing.T) {
	acts := []act{
		{call: "claim", n: 1}, {call: "claim", part: 1, n: 2}, {call: "fill", n: 0, bytes: []byte{5}},
		{call: "publish", n: 0}, {call: "publish", n: 1}, {call: "publish", part: 1},
		{call: "read", n: 0}, {call: "drop"}, {call: "trim", n: 1},
	}
	all := 1
	for range 5 {
		all *= len(acts)
	}
	for _, kinds := range [][]kind{{{1, api.Over}, {1, api.Over}}, {{2, api.Over}, {1, api.Block}}, {{1, api.Block}, {2, api.Over}}} {
		for history := range all { // its digits are its calls
			p, w := both(t, 2, 2, kinds...)
			past := make([]act, 0, 5)
			for rest := history; len(past) < cap(past); rest /= len(acts) {
				c := acts[rest%len(acts)]
				hold(t, p, w, c, past)
				past = append(past, c)
			}
			if d := w.differs(p); d != "" { // what is behind fewer calls, another history ends with
				t.Fatalf("%v: behind %v: %s", kinds, past, d)
			}
		}
	}
}

// 12.1 to 12.5, P1, P2: each history of seven calls of one partition over a pool of one envelope.
func TestHistoriesOfOneEnvelope(t *testing.T) {
	acts := []act{{call: "claim", n: 1}, {call: "publish", n: 0}, {call: "publish", n: 1}, {call: "read", n: 0}, {call: "drop"}, {call: "trim", n: 1}}
	all := 1
	for range 7 {
		all *= len(acts)
	}
	for _, k := range []kind{{1, api.Over}, {1, api.Block}, {2, api.Over}} {
		for history := range all {
			p, w := both(t, 1, 1, k)
			past := make([]act, 0, 7)
			for rest := history; len(past) < cap(past); rest /= len(acts) {
				c := acts[rest%len(acts)]
				hold(t, p, w, c, past)
				past = append(past, c)
			}
			if d := w.differs(p); d != "" {
				t.Fatalf("%v: behind %v: %s", k, past, d)
			}
		}
	}
}

// chosen is a call of a plain one by a rule that below picks by: most by offsets in the window, some by others.
func chosen(p *plain, below func(int) int) act {
	k := below(len(p.parts))
	x := p.parts[k]
	at := x.head + below(min(x.room, len(x.places)-x.head+1)+2) - 1
	if below(30) == 0 {
		at = below(5) - 2
	}
	c := act{part: k, n: at}
	switch below(12) {
	case 0, 1, 2:
		return act{call: "claim", part: k, n: below(p.size+3) - 1}
	case 3, 4:
		c.call = "fill"
		length := below(p.size + 2)
		if x.fault(at) == 0 && below(5) > 0 {
			length = len(p.bytes[x.places[at].handle])
		}
		c.bytes = letters(length, byte(below(256)))
	case 5, 6, 7:
		c.call = "publish"
	case 8:
		c.call = "read"
	case 9, 10:
		return act{call: "drop", n: below(len(p.held) + 1)}
	default:
		if c.call = "trim"; below(2) == 0 {
			c.call = "peek"
		}
	}
	return c
}

// 12.1 to 12.6, P1, P2: long histories from a fixed rule, of one partition and of several, over pools that are too small and that are not. Each error is met.
func TestLongHistories(t *testing.T) {
	seed := uint32(12)
	below := func(n int) int {
		seed = seed*1664525 + 1013904223
		return int(seed>>8) % n
	}
	for _, c := range []struct {
		slots, size, calls int
		kinds              []kind
	}{
		{1, 1, 3000, []kind{{1, api.Over}}},
		{2, 2, 3000, []kind{{1, api.Over}, {1, api.Block}}},
		{4, 3, 5000, []kind{{2, api.Over}, {3, api.Over}}},
		{5, 4, 5000, []kind{{2, api.Block}, {1, api.Over}, {3, api.Over}}},
		{16, 8, 3000, []kind{{3, api.Over}, {2, api.Block}, {1, api.Over}}},
		{api.MaxSlots, api.MaxSize, 3000, []kind{{api.MaxRing, api.Over}, {api.MaxRing - 1, api.Block}, {5, api.Over}}},
	} {
		p, w := both(t, c.slots, c.size, c.kinds...)
		past := []act{}
		for range c.calls {
			a := chosen(p, below)
			hold(t, p, w, a, past)
			past = append(past, a)
			if d := w.differs(p); d != "" {
				t.Fatalf("%v: behind %v: %s", c.kinds, past, d)
			}
		}
		for _, e := range []api.Errno{api.OK, api.ErrArg, api.ErrLong, api.ErrNone, api.ErrSame, api.ErrBusy, api.ErrWindow} {
			if p.seen[int(e)] == 0 {
				t.Errorf("%v: no call met %d", c.kinds, int(e))
			}
		}
		if c.slots < 16 && (p.seen[int(api.ErrRing)] == 0 || p.seen[int(api.ErrPool)] == 0) {
			t.Errorf("%v: never without room, or without an envelope: %v", c.kinds, p.seen)
		}
	}
}
