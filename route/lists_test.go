package route_test

import (
	"fmt"
	"slices"
	"testing"

	"postrider/api"
	"postrider/route"
)

// sorted are the keys' places, part by part, as the document's words tell them.
func sorted(parts int, keys [][]byte) [][]int {
	var lists [][]int
	for part := range parts {
		list := []int{}
		for place, key := range keys {
			if goesTo(parts, key) == part {
				list = append(list, place)
			}
		}
		lists = append(lists, list)
	}
	return lists
}

// spread is how far the lists' lengths are apart.
func spread(lists [][]int) int {
	var lengths []int
	for _, list := range lists {
		lengths = append(lengths, len(list))
	}
	return slices.Max(lengths) - slices.Min(lengths)
}

// sorts holds Sort and Spread of some keys against the document's words, for each number of parts.
func sorts(t *testing.T, what string, keys ...[]byte) {
	t.Helper()
	for parts := 1; parts <= api.MaxParts; parts++ {
		want := sorted(parts, keys)
		same(t, fmt.Sprint("Sort(", parts, ") of ", what), answers(route.Sort(parts, keys...)), answers(want, api.OK))
		same(t, fmt.Sprint("Spread(", parts, ") of ", what), answers(route.Spread(parts, keys...)), answers(spread(want), api.OK))
	}
}

// 11.2: of no keys each part has an empty list, and none has more than another.
func TestNoKeys(t *testing.T) {
	for parts := 1; parts <= api.MaxParts; parts++ {
		empty := make([][]int, parts)
		for _, none := range [][][]byte{nil, {}, keys()[:0]} {
			same(t, "Sort of none", answers(route.Sort(parts, none...)), answers(empty, api.OK))
			same(t, "Spread of none", answers(route.Spread(parts, none...)), answers(0, api.OK))
		}
		lists, e := route.Sort(parts)
		same(t, "lists of no keys", answers(len(lists), e), answers(parts, api.OK))
		same(t, "Spread of no keys", answers(route.Spread(parts)), answers(0, api.OK))
	}
}

// 11.2: one key is in one list, and all others are empty; of one part alone nothing is apart.
func TestOneKey(t *testing.T) {
	for _, key := range keys() {
		sorts(t, short(key), key)
		same(t, "Spread(1) of "+short(key), answers(route.Spread(1, key)), answers(0, api.OK))
		same(t, "Spread(2) of "+short(key), answers(route.Spread(2, key)), answers(1, api.OK))
		same(t, "Sort(1) of "+short(key), answers(route.Sort(1, key)), answers([][]int{{0}}, api.OK))
	}
}

// 11.2: the empty key is sorted as others are, and nil is the empty key.
func TestEmptyKeys(t *testing.T) {
	same(t, "Sort of empty keys", answers(route.Sort(3, nil, []byte{}, []byte{0}, nil)), answers([][]int{{2}, {}, {0, 1, 3}}, api.OK))
	same(t, "Spread of empty keys", answers(route.Spread(3, nil, []byte{}, []byte{0}, nil)), answers(3, api.OK))
	sorts(t, "empty keys", nil, []byte{}, nil, []byte{})
}

// 11.2: lists of all lengths up to the greatest one.
func TestEachNumberOfKeys(t *testing.T) {
	list := slices.Concat(keys(), keys())[:api.MaxItems]
	for n := range api.MaxItems + 1 {
		sorts(t, fmt.Sprint(n, " keys"), list[:n]...)
	}
}

// 11.2: MaxItems keys of MaxKey bytes are the most that there may be.
func TestMostKeys(t *testing.T) {
	var list [][]byte
	for i := range api.MaxItems {
		key := many(api.MaxKey)
		key[i%api.MaxKey] ^= byte(i + 1)
		list = append(list, key)
	}
	sorts(t, "the most keys", list...)
}

// 11.2: all lists of up to four keys from seven.
func TestAllShortLists(t *testing.T) {
	from := [][]byte{nil, {0}, {1}, {2}, {3}, {3, 0}, many(api.MaxKey)}
	lists := [][][]byte{nil}
	for len(lists) > 0 {
		list := lists[0]
		lists = lists[1:]
		sorts(t, fmt.Sprint(list), list...)
		for _, key := range from {
			if len(list) < 4 {
				lists = append(lists, append(slices.Clone(list), key))
			}
		}
	}
}

// 11.2, 11.3: equal keys are as many as they are: each has its place in the one list.
func TestEqualKeys(t *testing.T) {
	for _, key := range keys() {
		for _, n := range []int{2, 3, 17, api.MaxItems} {
			var list [][]byte
			for range n {
				list = append(list, slices.Clone(key))
			}
			sorts(t, fmt.Sprint(n, " times ", short(key)), list...)
		}
	}
}

// 11.2, 11.3: equal keys between others go to one part, wherever they stand and whatever memory they lie in.
func TestEqualKeysBetweenOthers(t *testing.T) {
	for parts := 1; parts <= api.MaxParts; parts++ {
		for _, key := range keys() {
			text := string(key)
			list := [][]byte{[]byte(text), {1}, append(make([]byte, 0, 100), text...), {2}, nil, {3}, append([]byte("ahead of "), text...)[len("ahead of "):]}
			part, e := route.Of(parts, key)
			lists, f := route.Sort(parts, list...)
			if e != api.OK || f != api.OK {
				t.Fatalf("of %s: %d, %d", short(key), int(e), int(f))
			}
			for _, place := range []int{0, 2, 6} {
				if !slices.Contains(lists[part], place) {
					t.Errorf("of %s, which goes to %d of %d, at %d: %v", short(key), part, parts, place, lists)
				}
				same(t, "Same of equal keys", answers(route.Same(parts, key, list[place])), answers(true, api.OK))
			}
		}
	}
}

// 11.2: where all keys go to one part, that one has all places and the others none; one of two parts or more has all then.
func TestAllToOnePart(t *testing.T) {
	for parts := 1; parts <= api.MaxParts; parts++ {
		for part := range parts {
			for _, n := range []int{1, 2, 40, api.MaxItems} {
				list := goingTo(part, parts, n)
				want := make([][]int, parts)
				for place := range n {
					want[part] = append(want[part], place)
				}
				apart := n
				if parts == 1 {
					apart = 0
				}
				same(t, fmt.Sprint("Sort of ", n, " keys to ", part, " of ", parts), answers(route.Sort(parts, list...)), answers(want, api.OK))
				same(t, fmt.Sprint("Spread of ", n, " keys to ", part, " of ", parts), answers(route.Spread(parts, list...)), answers(apart, api.OK))
			}
		}
	}
}

// 11.2: where all parts have as many, nothing is apart; one key more, or one less, of any part is 1.
func TestEvenly(t *testing.T) {
	for parts := 2; parts <= api.MaxParts; parts++ {
		for _, n := range []int{1, 2, 7, api.MaxItems/parts - 1} {
			var list [][]byte
			for part := range parts {
				list = append(list, goingTo(part, parts, n)...)
			}
			same(t, fmt.Sprint("Spread of ", n, " keys each of ", parts), answers(route.Spread(parts, list...)), answers(0, api.OK))
			for part := range parts {
				more := append(slices.Clone(list), goingTo(part, parts, 1)...)
				less := slices.Delete(slices.Clone(list), part*n, part*n+1)
				same(t, fmt.Sprint("Spread, one more to ", part, " of ", parts), answers(route.Spread(parts, more...)), answers(1, api.OK))
				same(t, fmt.Sprint("Spread, one less to ", part, " of ", parts), answers(route.Spread(parts, less...)), answers(1, api.OK))
			}
		}
	}
}

// 11.2: a part to which none goes is the one that has fewest, wherever it is.
func TestOnePartEmpty(t *testing.T) {
	for parts := 2; parts <= api.MaxParts; parts++ {
		for empty := range parts {
			var list [][]byte
			for part := range parts {
				if part != empty {
					list = append(list, goingTo(part, parts, part+2)...)
				}
			}
			greatest := parts + 1
			if empty == parts-1 {
				greatest = parts
			}
			lists, e := route.Sort(parts, list...)
			same(t, fmt.Sprint("the empty list of part ", empty, " of ", parts), answers(len(lists), len(lists[empty]), e), answers(parts, 0, api.OK))
			same(t, fmt.Sprint("Spread, none to ", empty, " of ", parts), answers(route.Spread(parts, list...)), answers(greatest, api.OK))
		}
	}
}

// 11.1 to 11.4: the calls tell the same of the same keys: each key is in just one list, that of its part, in the order of the keys.
func TestCallsTellTheSame(t *testing.T) {
	list := slices.Concat(keys(), keys())[:api.MaxItems]
	for parts := 1; parts <= api.MaxParts; parts++ {
		lists, e := route.Sort(parts, list...)
		same(t, "Sort", answers(len(lists), e), answers(parts, api.OK))
		in := map[int]int{}
		seen := 0
		for part, places := range lists {
			if !slices.IsSorted(places) {
				t.Errorf("part %d of %d: %v do not rise", part, parts, places)
			}
			for _, place := range places {
				in[place] = part
				seen++
				same(t, "Of "+short(list[place]), answers(route.Of(parts, list[place])), answers(part, api.OK))
			}
		}
		same(t, "places in the lists, and different ones", answers(seen, len(in)), answers(len(list), len(list)))
		for i, a := range list {
			for j, b := range list {
				if is, e := route.Same(parts, a, b); e != api.OK || is != (in[i] == in[j]) {
					t.Errorf("Same(%d) of %s and %s: %t, %d; their lists are %d and %d", parts, short(a), short(b), is, int(e), in[i], in[j])
				}
			}
		}
		same(t, "Spread", answers(route.Spread(parts, list...)), answers(spread(lists), api.OK))
	}
}

// orders are all orders of the keys.
func orders(keys [][]byte) [][][]byte {
	if len(keys) == 0 {
		return [][][]byte{nil}
	}
	var all [][][]byte
	for i := range keys {
		rest := slices.Delete(slices.Clone(keys), i, i+1)
		for _, order := range orders(rest) {
			all = append(all, append([][]byte{keys[i]}, order...))
		}
	}
	return all
}

// 11.4: in whatever order keys stand, each goes to the part to which it goes alone.
func TestWhateverTheOrder(t *testing.T) {
	list := [][]byte{nil, {0}, {1}, {2}, {2}, many(api.MaxKey)}
	for _, parts := range []int{1, 2, 3, 5, api.MaxParts} {
		for _, order := range orders(list) {
			lists, e := route.Sort(parts, order...)
			if e != api.OK {
				t.Fatalf("Sort(%d) of %v: %d", parts, order, int(e))
			}
			for place, key := range order {
				for part, places := range lists {
					if slices.Contains(places, place) != (part == goesTo(parts, key)) {
						t.Errorf("Sort(%d) of %v: %v, of which %d is in the wrong list", parts, order, lists, place)
					}
				}
			}
			same(t, "Spread in another order", answers(route.Spread(parts, order...)), answers(route.Spread(parts, list...)))
		}
	}
}

// 11.4: with any others ahead and behind it, any number of them, a key goes where it goes alone.
func TestWhateverTheOthers(t *testing.T) {
	others := slices.Concat(keys(), keys())
	for _, key := range [][]byte{nil, {0}, {97}, many(api.MaxKey)} {
		for parts := 1; parts <= api.MaxParts; parts++ {
			alone, _ := route.Sort(parts, key)
			for _, ahead := range []int{0, 1, 2, 50, api.MaxItems - 1} {
				for _, behind := range []int{0, 1, 2, 50, api.MaxItems - 1} {
					if ahead+behind >= api.MaxItems {
						continue
					}
					list := slices.Concat(others[:ahead], [][]byte{key}, others[ahead:ahead+behind])
					lists, e := route.Sort(parts, list...)
					if e != api.OK {
						t.Fatalf("Sort(%d) of %d keys: %d", parts, len(list), int(e))
					}
					for part, places := range lists {
						if slices.Contains(places, ahead) != (len(alone[part]) == 1) {
							t.Errorf("of %d parts %s behind %d, ahead of %d: part %d has %v, alone %v", parts, short(key), ahead, behind, part, places, alone[part])
						}
					}
				}
			}
		}
	}
}

// 11.4: a key behind others adds its own place to its part's list, and leaves all that was there.
func TestOneKeyMore(t *testing.T) {
	list := slices.Concat(keys(), keys())[:api.MaxItems]
	for parts := 1; parts <= api.MaxParts; parts++ {
		was := make([][]int, parts)
		for n, key := range list {
			part, _ := route.Of(parts, key)
			was[part] = append(was[part], n)
			same(t, fmt.Sprint("Sort(", parts, ") with one key more"), answers(route.Sort(parts, list[:n+1]...)), answers(was, api.OK))
		}
	}
}

// What Sort hands out is the caller's own: it may be written to and added to, list by list, and no other list, nor any other answer, knows of it.
func TestListsAreTheCallers(t *testing.T) {
	list := keys()[:40]
	for parts := 1; parts <= api.MaxParts; parts++ {
		want := sorted(parts, list)
		lists, _ := route.Sort(parts, list...)
		again, _ := route.Sort(parts, list...)
		for part := range lists {
			same(t, "a list ahead of being written to", lists[part], want[part])
			whole := lists[part][:cap(lists[part])]
			for i := range whole {
				whole[i] = -1 - part
			}
			for range 1000 {
				lists[part] = append(lists[part], -1-part)
			}
		}
		for part, places := range lists {
			same(t, "a list that was written to", places, slices.Repeat([]int{-1 - part}, len(want[part])+1000))
		}
		same(t, "another answer", again, want)
		same(t, "a later answer", answers(route.Sort(parts, list...)), answers(want, api.OK))
	}
}

// What a call tells stays, if the keys become others behind it; it tells of what they are then.
func TestKeepsNoKeys(t *testing.T) {
	list := [][]byte{{0}, {1}, {2}, {3}}
	lists, _ := route.Sort(3, list...)
	for _, key := range list {
		key[0] = 0
	}
	list[3] = nil
	same(t, "what was told", lists, [][]int{{0}, {3}, {1, 2}})
	same(t, "what is told now", answers(route.Sort(3, list...)), answers([][]int{{0, 1, 2}, {}, {3}}, api.OK))
	same(t, "Spread now", answers(route.Spread(3, list...)), answers(3, api.OK))
	same(t, "Of and Same now", answers(route.Of(3, list[2])), answers(0, api.OK))
}
