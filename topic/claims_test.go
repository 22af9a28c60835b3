package topic_test

import (
	"fmt"
	"hash/fnv"
	"math"
	"strings"
	"testing"

	"postrider/api"
	"postrider/topic"
)

// goes is the partition that a key goes to among so many, by the library's sum.
func goes(parts int, key []byte) int {
	sum := fnv.New64a()
	sum.Write(key)
	return int(sum.Sum64() % uint64(parts))
}

// letters are n bytes that begin with one, and go on.
func letters(n int, first byte) []byte {
	b := make([]byte, n)
	for i := range b {
		b[i] = first + byte(i)
	}
	return b
}

// keys are some of each length that may be: of no bytes, and of MaxKey, too.
func keys() [][]byte {
	list := [][]byte{nil, {}}
	for n := 1; n <= api.MaxKey; n++ {
		list = append(list, make([]byte, n), letters(n, 1), letters(n, 'a'), letters(n, 250))
	}
	for b := range 256 {
		list = append(list, []byte{byte(b)})
	}
	return list
}

// 13.2, 13.4: each key goes to the partition that its sum tells, whatever else was opened, and equal keys to one.
func TestRoute(t *testing.T) {
	for parts := 1; parts <= api.MaxParts; parts++ {
		s := made(t, 1, 1)
		opened(t, s, "other", api.MaxParts+1-parts, 1, api.Over)
		opened(t, s, "a", parts, 1, api.Block)
		seen := map[int]bool{}
		for _, key := range keys() {
			p := routed(t, s, "a", key)
			seen[p.Part] = true
			same(t, fmt.Sprint("Route of ", key), p, api.Place{Topic: 1, Part: goes(parts, key)})
			same(t, "Route of an equal key", routed(t, s, "a", []byte(string(key))), p)
		}
		same(t, "parts to which keys go", len(seen), parts)
		for number := 2; number < api.MaxTopics; number++ {
			opened(t, s, names[number], 1, 1, api.Over)
		}
		for _, key := range keys() {
			same(t, "Route behind other topics", routed(t, s, "a", key), api.Place{Topic: 1, Part: goes(parts, key)})
		}
	}
}

// 13.2: what is routed is claimed there, with the next offset and the envelope that is next in the pool.
func TestClaim(t *testing.T) {
	for _, policy := range policies {
		for _, parts := range edgeParts {
			s := made(t, api.MaxSlots, api.MaxSize)
			opened(t, s, "other", 1, 1, policy)
			opened(t, s, "a", parts, api.MaxRing, policy)
			tails := make([]int, parts)
			for slot := range api.MaxSlots {
				key := letters(slot%(api.MaxKey+1), byte(slot))
				part := goes(parts, key)
				if tails[part] == api.MaxRing {
					unclaimed(t, s, "a", key, 1, api.ErrRing)
					break
				}
				n := slot * api.MaxSize / (api.MaxSlots - 1) // none at first, as many as may be at last
				p, offset, h := claimed(t, s, "a", key, n)
				same(t, "Claim", answers(p, offset, h), answers(api.Place{Topic: 1, Part: part}, tails[part], of(slot, 0)))
				tails[part]++
				b, e := s.Pool().Bytes(h)
				same(t, "its bytes", answers(b, e), answers(make([]byte, n), 0))
				same(t, "the partition's tail", at(t, s, 1, part).Tail(), tails[part])
			}
		}
	}
}

// 13.2, P1: a key one byte longer than MaxKey, and longer ones.
func TestLongKeys(t *testing.T) {
	s := made(t, 2, 2)
	for i, parts := range edgeParts {
		opened(t, s, names[i], parts, 1, api.Over)
		for _, n := range []int{api.MaxKey + 1, api.MaxKey + 2, 2 * api.MaxKey, 10000} {
			unrouted(t, s, names[i], letters(n, byte(n)), api.ErrLong)
			unrouted(t, s, names[i], make([]byte, n), api.ErrLong)
		}
		published(t, s, names[i], letters(api.MaxKey, 9), []byte{1})
		trimmed(t, at(t, s, i, goes(parts, letters(api.MaxKey, 9))))
	}
}

// 13.2, P1: n below 0, and above the envelopes' size.
func TestClaimSizes(t *testing.T) {
	for _, size := range []int{1, 2, api.MaxSize - 1, api.MaxSize} {
		s := made(t, 4, size)
		opened(t, s, "a", 2, 4, api.Block)
		for _, n := range below {
			unclaimed(t, s, "a", []byte{1}, n, api.ErrArg)
		}
		for _, n := range append(beyond, math.MaxInt-size-1) {
			unclaimed(t, s, "a", []byte{1}, size+1+n, api.ErrLong)
		}
		for i, n := range []int{0, size, size - 1} {
			_, offset, h := claimed(t, s, "a", []byte{1}, n)
			same(t, "offset, handle", answers(offset, h), answers(i, i+1))
		}
	}
}

// 13.2: Claim answers Route's errors ahead of part.Claim's, these in their order, and is refused whole.
func TestClaimErrorsInOrder(t *testing.T) {
	long := make([]byte, api.MaxKey+1)
	for _, policy := range policies {
		s := made(t, 1, 2)
		opened(t, s, "a", 1, 1, policy)
		opened(t, s, "b", 2, 1, policy)
		for range 2 { // with an envelope, and room, and without
			unrouted(t, s, "a b", long, api.ErrName)
			unrouted(t, s, "c", long, api.ErrNone)
			unrouted(t, s, "a", long, api.ErrLong)
			unrouted(t, s, "c", nil, api.ErrNone)
			unclaimed(t, s, "a", nil, -1, api.ErrArg)
			unclaimed(t, s, "a", nil, 3, api.ErrLong)
			s.Claim("a", nil, 2)
		}
		unclaimed(t, s, "a", nil, 2, api.ErrRing)
		unclaimed(t, s, "a", nil, 0, api.ErrRing)
		for _, key := range [][]byte{nil, {0}, {1}} { // both partitions of b have room, and no envelope
			unclaimed(t, s, "b", key, -1, api.ErrArg)
			unclaimed(t, s, "b", key, 3, api.ErrLong)
			unclaimed(t, s, "b", key, 1, api.ErrPool)
		}
		x := at(t, s, 0, 0)
		x.Publish(0)
		h, _ := x.Read(0)
		if policy == api.Block {
			unclaimed(t, s, "a", nil, 2, api.ErrRing)
		} else {
			unclaimed(t, s, "a", nil, 2, api.ErrPool) // the head's place might go, but it is read
		}
		s.Pool().Drop(h)
		if policy == api.Over {
			_, offset, h := claimed(t, s, "a", nil, 2)
			same(t, "offset, handle", answers(offset, h), answers(1, of(0, 1)))
		}
	}
}

// 13.1, 13.2: a place that is claimed, filled and published is read where the key went.
func TestPublished(t *testing.T) {
	s := several(t)
	for _, name := range []string{"a", "b", "c"} {
		for _, key := range [][]byte{nil, {3}, []byte("key"), letters(api.MaxKey, 5)} {
			b := append([]byte(name), byte(len(key)))
			p, offset := published(t, s, name, key, b)
			x := at(t, s, p.Topic, p.Part)
			got, e := x.Peek(offset)
			same(t, "Peek", answers(got, e), answers(b, 0))
			h, e := x.Read(offset)
			same(t, "Read", int(e), 0)
			trimmed(t, x)
			got, e = s.Pool().Bytes(h)
			same(t, "Bytes", answers(got, e), answers(b, 0))
			s.Pool().Drop(h)
		}
	}
	same(t, "free ones", len(s.Pool().Free()), 8)
}

// 13.1, 13.2: a pool of one envelope, and one of MaxSlots, for all partitions of all topics: as many are claimed, and no more.
func TestOnePool(t *testing.T) {
	for _, slots := range []int{1, 2, api.MaxSlots - 1, api.MaxSlots} {
		s := made(t, slots, 1)
		for i := range api.MaxTopics {
			opened(t, s, names[i], api.MaxParts, api.MaxRing, i%2)
		}
		seen := map[int]bool{}
		for i := range slots {
			_, _, h := claimed(t, s, names[i%api.MaxTopics], []byte{byte(i)}, 1)
			seen[h] = true
		}
		same(t, "handles", len(seen), slots)
		for i := range api.MaxTopics {
			if _, _, _, e := s.Claim(names[i], []byte{byte(i)}, 1); e != api.ErrPool {
				t.Errorf("Claim without an envelope: %d", int(e))
			}
		}
		x := at(t, s, 0, goes(api.MaxParts, []byte{0}))
		x.Publish(0)
		if n, e := x.Trim(1); n != 1 || e != api.OK {
			t.Errorf("Trim(1): %d, %d", n, int(e))
		}
		_, _, h := claimed(t, s, names[api.MaxTopics-1], nil, 1) // what one topic gives back another one takes
		same(t, "handle", h, of(0, 1))
	}
}

// 13.3: names that differ in one byte, or in how they are cut into levels, are other topics; none is found twice.
func TestFoundByName(t *testing.T) {
	for _, list := range [][]string{
		names[:api.MaxTopics],
		names[len(names)-api.MaxTopics:],
		strings.Fields("a aa aaa A aA Aa /a a/ /a/ // a//a a/a $a $ $/ $a/"),
		strings.Fields("0 1 2 3 4 5 6 7 8 9 10 11 12 13 14 15"),
	} {
		s := made(t, 1, 1)
		for i, name := range list {
			same(t, "number", opened(t, s, name, 1, 1, api.Over), i)
		}
		found := map[int]bool{}
		for i, name := range list {
			number, e := s.Find(name)
			same(t, "number", answers(number, e), answers(i, 0))
			same(t, "name", s.Name(number), name)
			same(t, "where a key goes", routed(t, s, name, nil), api.Place{Topic: i})
			found[number] = true
			unopened(t, s, name, 1, 1, api.Over, api.ErrSame)
		}
		same(t, "topics that are found", len(found), api.MaxTopics)
	}
}

// 13.4: equal keys of one topic go to one partition, and what was claimed first has the lesser offset, whatever is claimed between, trimmed, or goes by itself.
func TestOneOrder(t *testing.T) {
	type line struct{ name, key string }
	for _, policy := range policies {
		s := made(t, api.MaxSlots, 2)
		opened(t, s, "a", api.MaxParts, 3, policy)
		opened(t, s, "b", 3, 2, policy)
		opened(t, s, "c", 1, 1, policy)
		places, last := map[line]api.Place{}, map[line]int{}
		claims := 0
		for i := range 3000 {
			l := line{name: s.Name(i % 3), key: strings.Repeat("k", i*7%11)}
			p, offset, _, e := s.Claim(l.name, []byte(l.key), i%3)
			if e == api.ErrRing { // one that blocks
				p = routed(t, s, l.name, []byte(l.key))
				trimmed(t, at(t, s, p.Topic, p.Part))
				p, offset, _, e = s.Claim(l.name, []byte(l.key), i%3)
			}
			if e != api.OK {
				t.Fatalf("Claim(%q, %q): %d", l.name, l.key, int(e))
			}
			if was, ok := places[l]; ok && (was != p || last[l] >= offset) {
				t.Fatalf("%v: at %v, %d, behind %v, %d", l, p, offset, was, last[l])
			}
			places[l], last[l] = p, offset
			at(t, s, p.Topic, p.Part).Publish(offset)
			claims++
		}
		same(t, "lines, claims", answers(len(last), claims), answers(33, 3000))
	}
}

// 13.4: the same key in another topic is another line: each topic's offsets begin at 0.
func TestOneOrderEachTopic(t *testing.T) {
	s := made(t, 16, 1)
	for i := range 4 {
		opened(t, s, names[i], 1+i, 4, api.Block)
	}
	for turn := range 4 {
		for i := range 4 {
			_, offset, _ := claimed(t, s, names[i], []byte("same"), 1)
			same(t, "offset", offset, turn)
		}
	}
}

// others are the windows of all places of a set but one.
func others(t *testing.T, s *topic.Set, p api.Place) string {
	t.Helper()
	all := windows(t, s)
	delete(all, p)
	return fmt.Sprint(all)
}

// emptied publishes all that is claimed in a set, and lets it go.
func emptied(t *testing.T, s *topic.Set) {
	t.Helper()
	for number := range s.Topics() {
		for _, p := range s.Places(number) {
			x := at(t, s, p.Topic, p.Part)
			for offset := x.Head(); offset < x.Tail(); offset++ {
				x.Publish(offset)
			}
			trimmed(t, x)
		}
	}
	same(t, "free ones", len(s.Pool().Free()), s.Pool().Slots())
}

// 13.5: what is claimed in one partition moves no other one's window, neither of the same topic nor of another one: also where places go for it, and where it is refused.
func TestApart(t *testing.T) {
	s := several(t)
	seen := map[api.Errno]int{}
	for i := range 600 {
		name, key := s.Name(i%3), []byte{byte(i / 3)}
		p := routed(t, s, name, key)
		was := others(t, s, p)
		_, offset, _, e := s.Claim(name, key, i%7-1)
		seen[e]++
		same(t, "the other windows", others(t, s, p), was)
		if e == api.OK && i%4 > 0 {
			at(t, s, p.Topic, p.Part).Publish(offset)
			same(t, "the other windows", others(t, s, p), was)
		}
		if i%20 == 0 {
			emptied(t, s)
		}
	}
	for _, e := range []api.Errno{api.OK, api.ErrArg, api.ErrLong, api.ErrRing, api.ErrPool} {
		if seen[e] < 10 {
			t.Errorf("hardly any claim met %d: %v", int(e), seen)
		}
	}
	for _, p := range s.Places(0, 1, 2) {
		if tail := at(t, s, p.Topic, p.Part).Tail(); tail < 10 {
			t.Errorf("%v: hardly anything was claimed there: %d", p, tail)
		}
	}
}

// 13.5: no envelope is left: another partition's places do not go, though they might.
func TestApartWithoutEnvelopes(t *testing.T) {
	s := made(t, 2, 1)
	opened(t, s, "a", 2, 1, api.Over)
	opened(t, s, "b", 1, 1, api.Over)
	here, there := []byte{0}, []byte{1}
	if goes(2, here) == goes(2, there) {
		t.Fatal("these keys go to one partition")
	}
	p, _ := published(t, s, "a", here, []byte{1})
	q, _ := published(t, s, "b", nil, []byte{2})
	unclaimed(t, s, "a", there, 1, api.ErrPool)
	trimmed(t, at(t, s, q.Topic, q.Part))
	was := others(t, s, routed(t, s, "a", there))
	_, offset, h := claimed(t, s, "a", there, 1)
	same(t, "offset, handle", answers(offset, h), answers(0, of(1, 1)))
	same(t, "the other windows", others(t, s, routed(t, s, "a", there)), was)
	unclaimed(t, s, "b", nil, 1, api.ErrPool)
	_, offset, h = claimed(t, s, "a", here, 1) // its own place goes
	same(t, "offset, handle", answers(offset, h), answers(1, of(0, 1)))
	same(t, "head", at(t, s, p.Topic, p.Part).Head(), 1)
}

// 13.5: topics that are opened move no window, and take none of the pool.
func TestOpenMovesNothing(t *testing.T) {
	s := several(t)
	published(t, s, "a", nil, []byte{1})
	claimed(t, s, "c", nil, 1)
	was, pool := fmt.Sprint(windows(t, s)), stock(s.Pool())
	for i := range 5 {
		s.Open(fmt.Sprint("x", i), 1, 1, api.Over)
	}
	now := windows(t, s)
	for i := range 5 {
		delete(now, api.Place{Topic: 3 + i})
	}
	same(t, "windows, pool", answers(fmt.Sprint(now), stock(s.Pool())), answers(was, pool))
}
