package topic_test

import (
	"fmt"
	"math"
	"slices"
	"strings"
	"testing"

	"postrider/api"
	"postrider/part"
	"postrider/pool"
	"postrider/topic"
)

// The numbers that the document's limits, and the machine's, set apart.
var (
	policies   = []int{api.Block, api.Over}
	edgeParts  = []int{1, 2, 3, api.MaxParts - 1, api.MaxParts}
	edgeRooms  = []int{1, 2, 3, 32, api.MaxRing - 1, api.MaxRing}
	noParts    = []int{math.MinInt, -api.MaxParts, -1, 0, api.MaxParts + 1, 2 * api.MaxParts, api.MaxOffset, math.MaxInt}
	noRooms    = []int{math.MinInt, -api.MaxRing, -1, 0, api.MaxRing + 1, 2 * api.MaxRing, api.MaxOffset, math.MaxInt}
	noPolicies = []int{math.MinInt, -2, -1, 2, 3, api.MaxRing, math.MaxInt}
	noSlots    = []int{math.MinInt, -api.MaxSlots, -1, 0, api.MaxSlots + 1, 2 * api.MaxSlots, math.MaxInt}
	noSizes    = []int{math.MinInt, -api.MaxSize, -1, 0, api.MaxSize + 1, 2 * api.MaxSize, math.MaxInt}
	below      = []int{math.MinInt, math.MinInt + 1, -api.MaxOffset, -api.MaxTopics, -2, -1}
	beyond     = []int{0, 1, 2, api.MaxParts, api.MaxTopics, api.MaxOffset, math.MaxInt / 2} // behind the last
)

// names are those that may be: of one byte and of MaxName, of one level and of MaxLevels, with levels that are empty, hidden ones, and such as are told apart by one byte.
var names = []string{
	"a", "A", "b", "/", "a/", "/a", "a//b", "a/b", "$", "$a/b", "!", "~", "a!", "1/2/3/4/5/6/7/8",
	strings.Repeat("/", api.MaxLevels-1), strings.Repeat("n", api.MaxName), strings.Repeat("n", api.MaxName-1) + "N",
	strings.Repeat("n", api.MaxName-1), strings.Repeat("abcdefg/", api.MaxLevels-1) + "abcdefgh",
}

// noNames are none: too short, too long, of too many levels, with bytes that no name has.
var noNames = []string{
	"", " ", "a b", "a ", " a", "a\n", "\x00", "\x1f", "\x7f", "\x80", "\xff", "é", "+", "#", "a/+", "a/#", "+/a", "a+b", "a#",
	strings.Repeat("n", api.MaxName+1), strings.Repeat("n", 1000), strings.Repeat("/", api.MaxLevels), "1/2/3/4/5/6/7/8/9",
}

func same(t *testing.T, what string, got, want any) {
	t.Helper()
	if g, w := fmt.Sprint(got), fmt.Sprint(want); g != w {
		t.Errorf("%s: %s, want %s", what, g, w)
	}
}

// answers are a call's results in a row, errors as numbers.
func answers(results ...any) []any {
	for i, r := range results {
		if e, ok := r.(api.Errno); ok {
			results[i] = int(e)
		}
	}
	return results
}

// unmade are the sets that no call made.
func unmade() map[string]*topic.Set {
	return map[string]*topic.Set{"nil": nil, "plain": {}, "new": new(topic.Set)}
}

func made(t *testing.T, slots, size int) *topic.Set {
	t.Helper()
	s, e := topic.Make(slots, size)
	if s == nil || e != api.OK {
		t.Fatalf("Make(%d, %d): %v, %d, want a set", slots, size, s, int(e))
	}
	return s
}

// opened opens a topic, and is its number.
func opened(t *testing.T, s *topic.Set, name string, parts, room, policy int) int {
	t.Helper()
	number, e := s.Open(name, parts, room, policy)
	if e != api.OK {
		t.Fatalf("Open(%q, %d, %d, %d): %d, %d, want a topic", name, parts, room, policy, number, int(e))
	}
	return number
}

// at is the partition at a place that there is.
func at(t *testing.T, s *topic.Set, topic, number int) *part.Part {
	t.Helper()
	x, e := s.Part(api.Place{Topic: topic, Part: number})
	if x == nil || e != api.OK {
		t.Fatalf("Part({%d, %d}): %v, %d, want a partition", topic, number, x, int(e))
	}
	return x
}

// routed is the place that a key goes to.
func routed(t *testing.T, s *topic.Set, name string, key []byte) api.Place {
	t.Helper()
	p, e := s.Route(name, key)
	if e != api.OK {
		t.Fatalf("Route(%q, %v): %v, %d, want a place", name, key, p, int(e))
	}
	return p
}

// claimed claims a place, and is where it is, its offset and its envelope's handle.
func claimed(t *testing.T, s *topic.Set, name string, key []byte, n int) (api.Place, int, int) {
	t.Helper()
	p, offset, h, e := s.Claim(name, key, n)
	if e != api.OK {
		t.Fatalf("Claim(%q, %v, %d): %v, %d, %d, %d, want a place", name, key, n, p, offset, h, int(e))
	}
	return p, offset, h
}

// published claims a place, fills it and publishes it, and is where it is, and its offset.
func published(t *testing.T, s *topic.Set, name string, key, b []byte) (api.Place, int) {
	t.Helper()
	p, offset, _ := claimed(t, s, name, key, len(b))
	x := at(t, s, p.Topic, p.Part)
	if e := x.Fill(offset, b); e != api.OK {
		t.Fatalf("Fill(%d, %v): %d", offset, b, int(e))
	}
	if e := x.Publish(offset); e != api.OK {
		t.Fatalf("Publish(%d): %d", offset, int(e))
	}
	return p, offset
}

// trimmed lets all places of a partition go that are published.
func trimmed(t *testing.T, x *part.Part) {
	t.Helper()
	if _, e := x.Trim(x.Ready(0)); e != api.OK {
		t.Fatalf("Trim: %d", int(e))
	}
}

// of is the handle of a slot and a generation that may be.
func of(slot, gen int) int { return gen*api.MaxSlots + slot + 1 }

// window is all that a partition tells of its window.
func window(x *part.Part) string {
	s := fmt.Sprint(x.Head(), x.Tail(), x.Room(), x.Handles())
	for offset := x.Head() - 2; offset < x.Tail()+2; offset++ {
		b, e := x.Peek(offset)
		s += fmt.Sprint(" ", b, int(e), x.Ready(offset))
	}
	return s
}

// windows are those of all places of a set.
func windows(t *testing.T, s *topic.Set) map[api.Place]string {
	t.Helper()
	all := map[api.Place]string{}
	for number := range s.Topics() {
		for _, p := range s.Places(number) {
			all[p] = window(at(t, s, p.Topic, p.Part))
		}
	}
	return all
}

// stock is all that calls tell of a pool.
func stock(p *pool.Pool) string {
	s := fmt.Sprint(p.Slots(), p.Size(), p.Free())
	for slot := range p.Slots() {
		b, e := p.Bytes(of(slot, p.Gen(slot)))
		s += fmt.Sprint(" ", p.Count(slot), p.Gen(slot), b, int(e))
	}
	return s
}

// told is all that calls tell of a set, of its partitions and of its pool.
func told(t *testing.T, s *topic.Set) string {
	t.Helper()
	text := fmt.Sprintln(s.Topics(), stock(s.Pool()))
	for number := range s.Topics() {
		found, e := s.Find(s.Name(number))
		text += fmt.Sprintln(s.Name(number), found, int(e), s.Places(number))
	}
	for _, name := range names {
		found, e := s.Find(name)
		p, f := s.Route(name, []byte(name))
		text += fmt.Sprint(" ", found, int(e), p, int(f))
	}
	return text + fmt.Sprint("\n", windows(t, s)) // keys are told in their order
}

// unchanged does something that is to change nothing.
func unchanged(t *testing.T, s *topic.Set, do func()) {
	t.Helper()
	was := told(t, s)
	do()
	same(t, "what is told behind what was refused", told(t, s), was)
}

// unopened holds that an opening is refused, and that this changes nothing.
func unopened(t *testing.T, s *topic.Set, name string, parts, room, policy int, want api.Errno) {
	t.Helper()
	unchanged(t, s, func() {
		t.Helper()
		number, e := s.Open(name, parts, room, policy)
		same(t, fmt.Sprintf("Open(%q, %d, %d, %d)", name, parts, room, policy), answers(number, e), answers(0, want))
	})
}

// unfound holds that a name is refused by Find, and, whatever the key is, by Route and Claim.
func unfound(t *testing.T, s *topic.Set, name string, want api.Errno) {
	t.Helper()
	number, e := s.Find(name)
	same(t, fmt.Sprintf("Find(%q)", name), answers(number, e), answers(0, want))
	for _, key := range [][]byte{nil, {}, {3}, make([]byte, api.MaxKey), make([]byte, api.MaxKey+1)} {
		unrouted(t, s, name, key, want)
	}
}

// unrouted holds that a key is refused by Route, and, whatever n is, by Claim.
func unrouted(t *testing.T, s *topic.Set, name string, key []byte, want api.Errno) {
	t.Helper()
	p, e := s.Route(name, key)
	same(t, fmt.Sprintf("Route(%q, %v)", name, key), answers(p, e), answers(api.Place{}, want))
	for _, n := range []int{math.MinInt, -1, 0, 1, api.MaxSize, api.MaxSize + 1, math.MaxInt} {
		unclaimed(t, s, name, key, n, want)
	}
}

// unclaimed holds that a claim is refused, and that this changes nothing.
func unclaimed(t *testing.T, s *topic.Set, name string, key []byte, n int, want api.Errno) {
	t.Helper()
	do := func() {
		t.Helper()
		p, offset, h, e := s.Claim(name, key, n)
		same(t, fmt.Sprintf("Claim(%q, %v, %d)", name, key, n), answers(p, offset, h, e), answers(api.Place{}, 0, 0, want))
	}
	if s.Pool() == nil { // there is nothing that could change
		do()
		return
	}
	unchanged(t, s, do)
}

// parted holds that a place is none.
func parted(t *testing.T, s *topic.Set, topic, number int, want api.Errno) {
	t.Helper()
	x, e := s.Part(api.Place{Topic: topic, Part: number})
	if x != nil || e != want {
		t.Errorf("Part({%d, %d}): %v, %d, want %d", topic, number, x, int(e), int(want))
	}
}

// The chapter's example.
func TestExample(t *testing.T) {
	s := made(t, 4, 4)
	number, e := s.Open("a", 3, 4, api.Block)
	same(t, "Open", answers(number, e), answers(0, 0))
	p, e := s.Route("a", []byte{3})
	same(t, "Route", answers(p, e), answers(api.Place{Topic: 0, Part: 1}, 0))
	p, offset, h, e := s.Claim("a", []byte{3}, 1)
	same(t, "Claim", answers(p, offset, h, e), answers(api.Place{Topic: 0, Part: 1}, 0, 1, 0))
}

// 13.1: each pool that may be; there are no topics in it, and nothing of it is taken.
func TestMake(t *testing.T) {
	for slots := 1; slots <= api.MaxSlots; slots++ {
		for _, size := range []int{1, 2, api.MaxSize - 1, api.MaxSize} {
			s := made(t, slots, size)
			p := s.Pool()
			same(t, "topics, slots, size, free ones", answers(s.Topics(), p.Slots(), p.Size(), len(p.Free())), answers(0, slots, size, slots))
		}
	}
	for size := 1; size <= api.MaxSize; size++ {
		same(t, "size", made(t, 1, size).Pool().Size(), size)
	}
}

// 13.1, P1: slots and a size that no pool has.
func TestMakeRefused(t *testing.T) {
	refused := func(slots, size int) {
		t.Helper()
		if s, e := topic.Make(slots, size); s != nil || e != api.ErrArg {
			t.Errorf("Make(%d, %d): %v, %d, want %d", slots, size, s, int(e), int(api.ErrArg))
		}
	}
	for _, slots := range noSlots {
		for _, size := range slices.Concat(noSizes, []int{1, 2, api.MaxSize}) {
			refused(slots, size)
		}
	}
	for _, size := range noSizes {
		for _, slots := range []int{1, 2, api.MaxSlots} {
			refused(slots, size)
		}
	}
}

// P1, rule 2: a set that no call made answers ErrNil, or zero values, whatever it is given.
func TestUnmade(t *testing.T) {
	for kind, s := range unmade() {
		for _, name := range slices.Concat(names, noNames) {
			for _, parts := range slices.Concat(edgeParts, noParts) {
				number, e := s.Open(name, parts, 1, api.Block)
				same(t, kind+": Open", answers(number, e), answers(0, api.ErrNil))
			}
			number, e := s.Open(name, 0, 0, -1)
			same(t, kind+": Open", answers(number, e), answers(0, api.ErrNil))
			unfound(t, s, name, api.ErrNil)
		}
		for _, number := range slices.Concat(below, beyond) {
			same(t, kind+": Name", s.Name(number), "")
			same(t, kind+": Places", len(s.Places(number, 0, 1)), 0)
			parted(t, s, number, 0, api.ErrNil)
			parted(t, s, 0, number, api.ErrNil)
		}
		same(t, kind+": Topics, Places", answers(s.Topics(), len(s.Places())), answers(0, 0))
		if s.Pool() != nil {
			t.Errorf("%s: it has a pool", kind)
		}
	}
}

// 13.1, 13.2: a set without topics: no number is one's, no name is found.
func TestNoTopics(t *testing.T) {
	s := made(t, 1, 1)
	for _, name := range names {
		unfound(t, s, name, api.ErrNone)
	}
	for _, number := range slices.Concat(below, beyond) {
		same(t, "Name", s.Name(number), "")
		same(t, "Places", len(s.Places(number)), 0)
		parted(t, s, number, 0, api.ErrNone)
	}
	same(t, "Topics, Places", answers(s.Topics(), len(s.Places())), answers(0, 0))
}

// 13.1, 13.3: topics are numbered in the order in which they were opened, up to MaxTopics of them; each is found by its name, at once and later on, and no other name finds any.
func TestOpen(t *testing.T) {
	for turn := range names { // each name comes first, and each is left out
		s := made(t, 1, 1)
		order := slices.Concat(names[turn:], names[:turn])
		for i, name := range order[:api.MaxTopics] {
			unfound(t, s, name, api.ErrNone)
			same(t, "number", opened(t, s, name, 1+i%api.MaxParts, 1+i, i%2), i)
			same(t, "topics", s.Topics(), i+1)
			for j, elder := range order[:i+1] {
				number, e := s.Find(elder)
				same(t, "number, name", answers(number, s.Name(j), e), answers(j, elder, 0))
			}
			same(t, "the name behind the last", s.Name(i+1), "")
		}
		for _, name := range order[api.MaxTopics:] {
			unfound(t, s, name, api.ErrNone)
		}
	}
}

// 13.1: one topic more than MaxTopics; those that there are stay as they are.
func TestOpenTooMany(t *testing.T) {
	s := made(t, 2, 2)
	for i := range api.MaxTopics {
		opened(t, s, names[i], 2, 2, api.Over)
	}
	for _, name := range names[api.MaxTopics:] {
		for range 2 {
			unopened(t, s, name, 1, 1, api.Block, api.ErrFull)
		}
		unfound(t, s, name, api.ErrNone)
	}
	same(t, "topics", s.Topics(), api.MaxTopics)
	for i := range api.MaxTopics {
		same(t, "name, places", answers(s.Name(i), len(s.Places(i))), answers(names[i], 2))
		published(t, s, names[i], nil, []byte{byte(i)})
		trimmed(t, at(t, s, i, routed(t, s, names[i], nil).Part))
	}
}

// 13.1, P1: what is no name.
func TestNoNames(t *testing.T) {
	s := made(t, 1, 1)
	for range 2 { // without topics, and with one
		for _, name := range noNames {
			unopened(t, s, name, 1, 1, api.Block, api.ErrName)
			unfound(t, s, name, api.ErrName)
		}
		s.Open("a", 1, 1, api.Block)
	}
	same(t, "topics", s.Topics(), 1)
}

// 13.1: each byte makes a name, or none, alone and between others.
func TestNamesOfEachByte(t *testing.T) {
	for b := range 256 {
		for _, name := range []string{string([]byte{byte(b)}), "x" + string([]byte{byte(b)}) + "y"} {
			s := made(t, 1, 1)
			if b < 33 || b > 126 || b == '+' || b == '#' {
				unopened(t, s, name, 1, 1, api.Over, api.ErrName)
				continue
			}
			same(t, name, opened(t, s, name, 1, 1, api.Over), 0)
			same(t, "its name", s.Name(0), name)
			unopened(t, s, name, 1, 1, api.Over, api.ErrSame)
		}
	}
}

// 13.1, P1: no partition, fewer, one too many; no room, less, one place too many; a policy that is none.
func TestOpenArguments(t *testing.T) {
	s := made(t, 2, 2)
	opened(t, s, "b", 2, 2, api.Over)
	published(t, s, "b", nil, []byte{1})
	for _, parts := range noParts {
		unopened(t, s, "a", parts, 1, api.Block, api.ErrArg)
		unopened(t, s, "a", parts, api.MaxRing, api.Over, api.ErrArg)
		for _, room := range noRooms {
			unopened(t, s, "a", parts, room, api.Block, api.ErrArg)
		}
		for _, policy := range noPolicies {
			unopened(t, s, "a", parts, 1, policy, api.ErrArg)
		}
	}
	for _, parts := range edgeParts {
		for _, room := range noRooms {
			unopened(t, s, "a", parts, room, api.Block, api.ErrArg)
			unopened(t, s, "a", parts, room, api.Over, api.ErrArg)
			unopened(t, s, "a", parts, room, -1, api.ErrArg)
		}
		for _, policy := range noPolicies {
			unopened(t, s, "a", parts, 1, policy, api.ErrArg)
			unopened(t, s, "a", parts, api.MaxRing, policy, api.ErrArg)
		}
	}
	same(t, "what is opened behind them", opened(t, s, "a", 1, 1, api.Block), 1)
}

// 13.1, P2: a name that is open already: its topic stays as it was, with as many partitions, as much room, and its policy.
func TestOpenAgain(t *testing.T) {
	s := made(t, 8, 2)
	opened(t, s, "a", 2, 1, api.Block)
	opened(t, s, "b", 1, 2, api.Over)
	published(t, s, "a", []byte{1}, []byte{7})
	for _, parts := range edgeParts {
		for _, room := range edgeRooms {
			for _, policy := range policies {
				unopened(t, s, "a", parts, room, policy, api.ErrSame)
				unopened(t, s, "b", parts, room, policy, api.ErrSame)
			}
		}
	}
	same(t, "topics", s.Topics(), 2)
	unclaimed(t, s, "a", []byte{1}, 1, api.ErrRing) // a room of one that blocks
	for i := range 3 {                              // a room of two that does not
		_, offset := published(t, s, "b", nil, []byte{byte(i)})
		same(t, "offset", offset, i)
	}
}

// 13.1: where several errors apply: ErrName ahead of ErrArg, this ahead of ErrSame, this ahead of ErrFull.
func TestOpenErrorsInOrder(t *testing.T) {
	s := made(t, 1, 1)
	for i := range api.MaxTopics {
		for _, bad := range [][3]int{{0, 1, api.Block}, {api.MaxParts + 1, 1, api.Over}, {1, 0, api.Block}, {1, api.MaxRing + 1, api.Over}, {1, 1, 2}, {0, 0, -1}} {
			unopened(t, s, "a b", bad[0], bad[1], bad[2], api.ErrName)
			unopened(t, s, "z", bad[0], bad[1], bad[2], api.ErrArg)
			if i > 0 {
				unopened(t, s, names[0], bad[0], bad[1], bad[2], api.ErrArg)
			}
		}
		opened(t, s, names[i], 1, 1, api.Block)
	}
	for _, name := range noNames {
		unopened(t, s, name, 1, 1, api.Block, api.ErrName)
		unopened(t, s, name, 0, 1, api.Block, api.ErrName)
	}
	for _, name := range names[:api.MaxTopics] {
		unopened(t, s, name, 1, 1, api.Block, api.ErrSame)
		unopened(t, s, name, 1, 1, 2, api.ErrArg)
	}
	unopened(t, s, "z", 1, 1, api.Block, api.ErrFull)
	unopened(t, s, "z", 1, 0, api.Block, api.ErrArg)
	unopened(t, s, "z", -1, 1, api.Block, api.ErrArg)
}

// fills a partition up, and holds that it has just so much room, and that policy.
func fills(t *testing.T, s *topic.Set, x *part.Part, room, policy int) {
	t.Helper()
	for offset := range room {
		got, _, e := x.Claim(1)
		same(t, "Claim", answers(got, e), answers(offset, 0))
	}
	_, _, e := x.Claim(1)
	same(t, "Claim of a full one, not published", int(e), int(api.ErrRing))
	for offset := range room {
		x.Publish(offset)
	}
	got, _, e := x.Claim(1)
	if policy == api.Block {
		same(t, "Claim of one that blocks", answers(got, e), answers(0, api.ErrRing))
	} else {
		same(t, "Claim of one that does not block", answers(got, e, x.Head()), answers(room, 0, 1))
		x.Publish(room)
	}
	trimmed(t, x)
	same(t, "free ones", len(s.Pool().Free()), s.Pool().Slots())
}

// 13.1: each number of partitions, of which each has as much room, and the same policy.
func TestOpenPartitions(t *testing.T) {
	for parts := 1; parts <= api.MaxParts; parts++ {
		for _, room := range edgeRooms {
			for _, policy := range policies {
				s := made(t, api.MaxRing, 1)
				was := stock(s.Pool())
				opened(t, s, "a", parts, room, policy)
				same(t, "the pool", stock(s.Pool()), was)
				same(t, "places", len(s.Places(0)), parts)
				for i := range parts {
					fills(t, s, at(t, s, 0, i), room, policy)
				}
			}
		}
	}
	for room := 1; room <= api.MaxRing; room++ {
		s := made(t, api.MaxRing, 1)
		opened(t, s, "a", 2, room, api.Over)
		fills(t, s, at(t, s, 0, 1), room, api.Over)
	}
}

// several is a set of three topics: a has three partitions, b one, c two.
func several(t *testing.T) *topic.Set {
	t.Helper()
	s := made(t, 8, 4)
	opened(t, s, "a", 3, 2, api.Over)
	opened(t, s, "b", 1, 2, api.Block)
	opened(t, s, "c", 2, 3, api.Over)
	return s
}

// 13.2: places topic by topic as they are handed in, partition by partition: of none, of one, of one twice, of all in any order.
func TestPlaces(t *testing.T) {
	s := several(t)
	of := [][]api.Place{{{Topic: 0, Part: 0}, {Topic: 0, Part: 1}, {Topic: 0, Part: 2}}, {{Topic: 1, Part: 0}}, {{Topic: 2, Part: 0}, {Topic: 2, Part: 1}}}
	for length := range 5 {
		all := 1
		for range length {
			all *= len(of)
		}
		for list := range all { // its digits are the topics
			topics, want := []int{}, []api.Place{}
			for rest := list; len(topics) < length; rest /= len(of) {
				topics = append(topics, rest%len(of))
				want = append(want, of[rest%len(of)]...)
			}
			if got := s.Places(topics...); !slices.Equal(got, want) {
				t.Errorf("Places(%v): %v, want %v", topics, got, want)
			}
		}
	}
}

// 13.2, P1: topics that there are not have no places, and do not keep others from having theirs.
func TestPlacesOfNoTopics(t *testing.T) {
	s := several(t)
	want := []api.Place{{Topic: 1, Part: 0}, {Topic: 2, Part: 0}, {Topic: 2, Part: 1}, {Topic: 1, Part: 0}}
	for _, none := range slices.Concat(below, []int{3, 4, api.MaxTopics, api.MaxTopics + 3, api.MaxOffset, math.MaxInt}) {
		same(t, "Places of none", len(s.Places(none)), 0)
		same(t, "Places of none, twice", len(s.Places(none, none)), 0)
		same(t, "Places with none between", s.Places(none, 1, none, none, 2, 1, none), want)
	}
}

// 13.2: of MaxTopics topics of MaxParts partitions each; of many more topics than there are.
func TestPlacesOfMany(t *testing.T) {
	s := made(t, 1, 1)
	topics, want := []int{}, []api.Place{}
	for i := range api.MaxTopics {
		topics = append(topics, opened(t, s, names[i], api.MaxParts, 1, api.Over))
		for j := range api.MaxParts {
			want = append(want, api.Place{Topic: i, Part: j})
		}
	}
	same(t, "Places of all", s.Places(topics...), want)
	many := slices.Repeat(topics, 100)
	same(t, "Places of all, again and again", s.Places(many...), slices.Repeat(want, 100))
	slices.Reverse(topics)
	for i, p := range s.Places(topics...) {
		same(t, "place", p, api.Place{Topic: api.MaxTopics - 1 - i/api.MaxParts, Part: i % api.MaxParts})
	}
}

// 13.2: each place has a partition of its own, the same one whenever it is asked for.
func TestPart(t *testing.T) {
	s := several(t)
	seen := map[*part.Part]api.Place{}
	for _, p := range s.Places(0, 1, 2) {
		x := at(t, s, p.Topic, p.Part)
		if other, ok := seen[x]; ok {
			t.Errorf("%v and %v are one partition", p, other)
		}
		seen[x] = p
		x.Claim(1)
	}
	opened(t, s, "d", 1, 1, api.Block)
	for x, p := range seen {
		if at(t, s, p.Topic, p.Part) != x {
			t.Errorf("%v is another partition than it was", p)
		}
		same(t, "tail", x.Tail(), 1)
	}
}

// 13.2, P1: places that there are not: below 0, and behind the last.
func TestPartOfNoPlace(t *testing.T) {
	s := several(t)
	for topic, parts := range []int{3, 1, 2} {
		for _, number := range below {
			parted(t, s, topic, number, api.ErrNone)
			parted(t, s, number, 0, api.ErrNone)
		}
		for _, n := range beyond {
			parted(t, s, topic, parts+n, api.ErrNone)
			parted(t, s, 3+n, topic, api.ErrNone)
		}
	}
	parted(t, s, -1, -1, api.ErrNone)
	parted(t, s, 3, 3, api.ErrNone)
	parted(t, s, 1, 1, api.ErrNone) // another topic has such a one
}

// 13.1, 13.2, rule 4: the pool and the partitions that are handed out are those that the set goes on with.
func TestHandedOutToBeUsed(t *testing.T) {
	s := made(t, 2, 4)
	opened(t, s, "a", 1, 2, api.Block)
	if s.Pool() == nil || s.Pool() != s.Pool() {
		t.Fatal("the pool is another one each time")
	}
	h, e := s.Pool().Take(1)
	same(t, "Take", answers(h, e), answers(1, 0))
	offset, mine, e := at(t, s, 0, 0).Claim(2)
	same(t, "Claim of the partition", answers(offset, mine, e), answers(0, 2, 0))
	unclaimed(t, s, "a", nil, 1, api.ErrPool)
	same(t, "Fill", int(at(t, s, 0, 0).Fill(0, []byte{5, 6})), 0)
	b, e := s.Pool().Bytes(2)
	same(t, "Bytes", answers(b, e), answers([]byte{5, 6}, 0))
	s.Pool().Drop(h)
	_, offset, mine = claimed(t, s, "a", nil, 1)
	same(t, "Claim", answers(offset, mine), answers(1, of(0, 1)))
	unclaimed(t, s, "a", nil, 1, api.ErrRing)
}

// 13.1: two sets have nothing in common.
func TestSetsApart(t *testing.T) {
	s, other := several(t), made(t, 1, 1)
	was := told(t, s)
	same(t, "number", opened(t, other, "c", 1, 1, api.Over), 0)
	same(t, "topics", other.Topics(), 1)
	for i := range 10 {
		published(t, other, "c", []byte{byte(i)}, []byte{1})
	}
	same(t, "the first set", told(t, s), was)
}

// P2, rule 4: numbers and bytes that are handed in are neither changed nor kept, and places that are handed out are the caller's own.
func TestNothingIsShared(t *testing.T) {
	s := several(t)
	topics := []int{2, 0, 2, -1}
	first, second := s.Places(topics...), s.Places(topics...)
	same(t, "the numbers", topics, []int{2, 0, 2, -1})
	want := slices.Clone(first)
	topics[0] = 1
	same(t, "places behind another number", first, want)
	for i := range first {
		first[i] = api.Place{Topic: 77, Part: 78}
	}
	_ = append(first[:1], api.Place{Topic: 79})
	same(t, "the other one's places", second, want)
	same(t, "places again", s.Places(2, 0, 2), want)
	key := []byte{0, 1, 2, 3}
	p := routed(t, s, "a", key[1:3])
	claimed(t, s, "a", key[1:3], 1)
	same(t, "the key", key, []byte{0, 1, 2, 3})
	was := told(t, s)
	key[1], key[2] = 200, 201
	same(t, "what is told behind another key", told(t, s), was)
	same(t, "where the first key goes", routed(t, s, "a", []byte{1, 2}), p)
	name := []byte("d/e")
	opened(t, s, string(name), 1, 1, api.Over)
	name[0] = 'x'
	same(t, "its name", s.Name(3), "d/e")
}

// P2: asking changes nothing.
func TestAskingChangesNothing(t *testing.T) {
	s := several(t)
	published(t, s, "c", []byte("k"), []byte{1, 2})
	unchanged(t, s, func() {
		for number := -2; number < 6; number++ {
			s.Name(number)
			s.Places(number, number, 1)
			for i := -2; i < 6; i++ {
				s.Part(api.Place{Topic: number, Part: i})
			}
		}
		for _, name := range slices.Concat(names, noNames) {
			s.Find(name)
			s.Route(name, []byte(name))
		}
		s.Topics()
		s.Pool()
	})
}
