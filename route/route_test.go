package route_test

import (
	"bytes"
	"fmt"
	"hash/fnv"
	"math"
	"math/big"
	"slices"
	"testing"

	"postrider/api"
	"postrider/route"
)

// noParts are numbers of parts that may not be; some of them would be, if they were cut off.
var noParts = []int{
	math.MinInt, math.MinInt + 1, -1<<32 + 3, math.MinInt32, -api.MaxOffset, -256 + 3, -api.MaxParts, -2, -1, 0,
	api.MaxParts + 1, api.MaxParts + 2, 2 * api.MaxParts, 255, 256 + 3, 1<<16 + 3, 1<<32 + 3, api.MaxOffset, math.MaxInt - 1, math.MaxInt,
}

// many are n bytes from a fixed rule, all kinds of them.
func many(n int) []byte {
	b := make([]byte, n)
	for i := range b {
		b[i] = byte(i*i/3 + i*7 + n*11 + i>>4)
	}
	return b
}

// keys are keys of all sorts, up to the longest ones.
func keys() [][]byte {
	list := [][]byte{
		nil, {}, {0}, {1}, {2}, {3}, {97}, {127}, {128}, {255}, {0, 0}, {0, 255}, {255, 0}, {255, 255}, {0, 0, 0},
		[]byte("a"), []byte("b"), []byte("a/b"), []byte("foobar"), []byte("key"), []byte("a+#$ \n"), []byte("é€𝄞"), []byte("a\x00b"), {0xff, 0xfe, 0x80},
	}
	for n := range api.MaxKey + 1 {
		list = append(list, many(n), make([]byte, n), bytes.Repeat([]byte{255}, n))
	}
	return list
}

// tooLong are keys that are longer than the longest one.
func tooLong() [][]byte {
	var list [][]byte
	for _, n := range []int{api.MaxKey + 1, api.MaxKey + 2, 2 * api.MaxKey, 255, 256, 256 + 3, 1 << 16, 1 << 20} {
		list = append(list, many(n), make([]byte, n))
	}
	return list
}

// goesTo is the part of a key as the document's words tell it: counted by the library's sum, and in whole numbers that do not go round.
func goesTo(parts int, key []byte) int {
	sum := fnv.New64a()
	sum.Write(key)
	number := new(big.Int).SetUint64(sum.Sum64())
	return int(number.Mod(number, big.NewInt(int64(parts))).Int64())
}

// goingTo are n unlike keys that all go to one part.
func goingTo(part, parts, n int) [][]byte {
	var list [][]byte
	for i := 0; len(list) < n; i++ {
		if key := []byte(fmt.Sprint("key ", i)); goesTo(parts, key) == part {
			list = append(list, key)
		}
	}
	return list
}

// same holds what a call answered against what it is to answer; a list without members is as none.
func same(t *testing.T, what string, got, want any) {
	t.Helper()
	if g, w := fmt.Sprint(got), fmt.Sprint(want); g != w {
		t.Errorf("%s: %s, want %s", what, g, w)
	}
}

// answers are calls' results in a row, errors as numbers.
func answers(results ...any) []any {
	for i, r := range results {
		if e, ok := r.(api.Errno); ok {
			results[i] = int(e)
		}
	}
	return results
}

// short names a key in few letters.
func short(b []byte) string {
	if len(b) > 12 {
		return fmt.Sprint(len(b), " bytes from ", b[:12], " on")
	}
	return fmt.Sprint(b)
}

// refused holds that Sort and Spread refuse these keys, with nothing beside the error.
func refused(t *testing.T, what string, e api.Errno, parts int, keys ...[]byte) {
	t.Helper()
	same(t, "Sort of "+what, answers(route.Sort(parts, keys...)), answers([][]int{}, e))
	same(t, "Spread of "+what, answers(route.Spread(parts, keys...)), answers(0, e))
}

func Example() {
	fmt.Println(route.Sort(3, []byte{0}, []byte{1}, []byte{2}, []byte{3}))
	// Output:
	// [[0] [3] [1 2]] error 0
}

// 11.1, 11.2: what the other calls tell of the example's keys.
func TestExample(t *testing.T) {
	for x, part := range []int{0, 2, 2, 1} {
		same(t, fmt.Sprint("Of ", x), answers(route.Of(3, []byte{byte(x)})), answers(part, api.OK))
		for y, other := range []int{0, 2, 2, 1} {
			same(t, fmt.Sprint("Same of ", x, " and ", y), answers(route.Same(3, []byte{byte(x)}, []byte{byte(y)})), answers(part == other, api.OK))
		}
	}
	same(t, "Spread", answers(route.Spread(3, []byte{0}, []byte{1}, []byte{2}, []byte{3})), answers(1, api.OK))
}

// 11.1: a key goes to the remainder of its sum, whatever its sort, and however many parts there are.
func TestOf(t *testing.T) {
	for _, key := range keys() {
		for parts := 1; parts <= api.MaxParts; parts++ {
			same(t, fmt.Sprint("Of(", parts, ") of ", short(key)), answers(route.Of(parts, key)), answers(goesTo(parts, key), api.OK))
		}
	}
}

// 11.1: each byte counts, at each place of a key, and 0 and 255 are bytes as others are.
func TestOfEachByte(t *testing.T) {
	for _, key := range [][]byte{make([]byte, 1), make([]byte, 2), many(7), many(api.MaxKey)} {
		for at := range key {
			b := slices.Clone(key)
			for x := range 256 {
				b[at] = byte(x)
				same(t, fmt.Sprint("Of with ", x, " at ", at, " of ", short(key)), answers(route.Of(7, b)), answers(goesTo(7, b), api.OK))
			}
		}
	}
}

// 11.1: the empty key is a key as others are, and nil is the empty key: a sum of no bytes is 14695981039346656037.
func TestOfEmptyKey(t *testing.T) {
	for i, part := range []int{0, 1, 2, 1, 2, 5, 2, 5} {
		for _, key := range [][]byte{nil, {}, make([]byte, 0, 5), many(9)[4:4]} {
			same(t, fmt.Sprint("Of(", i+1, ") of the empty key"), answers(route.Of(i+1, key)), answers(part, api.OK))
			same(t, "Same of the empty key and nil", answers(route.Same(i+1, key, nil)), answers(true, api.OK))
			same(t, "Same of nil and the empty key", answers(route.Same(i+1, nil, key)), answers(true, api.OK))
		}
	}
}

// 11.1: of one part all keys are.
func TestOfOnePart(t *testing.T) {
	for _, key := range keys() {
		same(t, "Of(1) of "+short(key), answers(route.Of(1, key)), answers(0, api.OK))
		same(t, "Same(1) of "+short(key), answers(route.Same(1, key, []byte("x"))), answers(true, api.OK))
	}
}

// 11.1: all of the parts, up to the greatest number of them, are had by some key, and no others.
func TestOfAllParts(t *testing.T) {
	for parts := 1; parts <= api.MaxParts; parts++ {
		had := map[int]int{}
		for x := range 256 {
			part, e := route.Of(parts, []byte{byte(x), 7})
			if e != api.OK || part < 0 || part >= parts {
				t.Errorf("Of(%d) of %d and 7: %d, %d", parts, x, part, int(e))
			}
			had[part]++
		}
		same(t, fmt.Sprint("of ", parts, " parts had"), len(had), parts)
	}
}

// 11.1: two keys are held against each other by their parts, all keys with all others.
func TestSame(t *testing.T) {
	list := keys()
	for parts := 1; parts <= api.MaxParts; parts++ {
		places := make([]int, len(list))
		for i, key := range list {
			places[i] = goesTo(parts, key)
		}
		for i, a := range list {
			for j, b := range list {
				if is, e := route.Same(parts, a, b); e != api.OK || is != (places[i] == places[j]) {
					t.Errorf("Same(%d) of %s and %s: %t, %d", parts, short(a), short(b), is, int(e))
				}
			}
		}
	}
}

// 11.1: unlike keys go to one part, if the remainder is the same; the parts decide, not the keys.
func TestSameOfUnlikeKeys(t *testing.T) {
	for parts := 2; parts <= api.MaxParts; parts++ {
		for part := range parts {
			here := goingTo(part, parts, 2)
			there := goingTo((part+1)%parts, parts, 1)
			same(t, "Same of two keys of one part", answers(route.Same(parts, here[0], here[1])), answers(true, api.OK))
			same(t, "Same of two keys of two parts", answers(route.Same(parts, here[0], there[0])), answers(false, api.OK))
		}
	}
}

// 11.1, 11.2, P1: a number of parts that may not be is refused by all calls, with nothing beside the error.
func TestPartsThatMayNotBe(t *testing.T) {
	for _, parts := range noParts {
		what := fmt.Sprint(parts, " parts")
		for _, key := range keys() {
			same(t, "Of "+what, answers(route.Of(parts, key)), answers(0, api.ErrArg))
			same(t, "Same "+what, answers(route.Same(parts, key, key)), answers(false, api.ErrArg))
			refused(t, what, api.ErrArg, parts, key)
		}
		refused(t, what+", of no keys", api.ErrArg, parts)
		refused(t, what+", of many keys", api.ErrArg, parts, keys()[:api.MaxItems/2]...)
	}
}

// 11.1, P1: a key that is too long is refused, whichever of the two it is.
func TestKeyTooLong(t *testing.T) {
	for _, key := range tooLong() {
		for parts := 1; parts <= api.MaxParts; parts++ {
			what := fmt.Sprint("(", parts, ") of ", short(key))
			same(t, "Of"+what, answers(route.Of(parts, key)), answers(0, api.ErrLong))
			for _, good := range [][]byte{nil, {1}, many(api.MaxKey), key[:api.MaxKey]} {
				same(t, "Same"+what+", first", answers(route.Same(parts, key, good)), answers(false, api.ErrLong))
				same(t, "Same"+what+", last", answers(route.Same(parts, good, key)), answers(false, api.ErrLong))
			}
			same(t, "Same"+what+", both", answers(route.Same(parts, key, key)), answers(false, api.ErrLong))
		}
	}
}

// 11.1, 11.2: a key's bytes are counted, not the room that it has behind them.
func TestRoomBehindKey(t *testing.T) {
	key := make([]byte, api.MaxKey, 4*api.MaxKey)
	same(t, "Of", answers(route.Of(5, key)), answers(goesTo(5, key), api.OK))
	same(t, "Same", answers(route.Same(5, key, key[:1])), answers(goesTo(5, key) == goesTo(5, key[:1]), api.OK))
	same(t, "Spread", answers(route.Spread(5, key, key)), answers(2, api.OK))
}

// 11.2, P1: one key that is too long is enough, alone, first, in the middle and last among good ones.
func TestKeyTooLongAmongOthers(t *testing.T) {
	for _, key := range tooLong() {
		for parts := 1; parts <= api.MaxParts; parts++ {
			refused(t, "a long key", api.ErrLong, parts, key)
			for _, n := range []int{1, 2, 3, 10, api.MaxItems - 1} {
				for _, at := range []int{0, n / 2, n} {
					list := slices.Insert(slices.Repeat([][]byte{{7}}, n), at, key)
					refused(t, fmt.Sprint("a long key at ", at, " of ", n+1), api.ErrLong, parts, list...)
				}
			}
		}
	}
}

// 11.2, P1: more than MaxItems keys are refused, whatever keys they are; MaxItems are not.
func TestTooManyKeys(t *testing.T) {
	for _, key := range [][]byte{nil, {}, {5}, many(api.MaxKey)} {
		for parts := 1; parts <= api.MaxParts; parts++ {
			for _, n := range []int{api.MaxItems + 1, api.MaxItems + 2, 2 * api.MaxItems, 2*api.MaxItems + 1, 1 << 16, 1<<16 + 3} {
				refused(t, fmt.Sprint(n, " keys"), api.ErrLong, parts, slices.Repeat([][]byte{key}, n)...)
			}
			same(t, "Spread of MaxItems keys", answers(route.Spread(parts, slices.Repeat([][]byte{key}, api.MaxItems)...)), answers(most(parts), api.OK))
		}
	}
	refused(t, "too many keys of which one is too long", api.ErrLong, 3, append(make([][]byte, api.MaxItems), tooLong()[0])...)
}

// most is the spread of MaxItems keys that all go to one of so many parts.
func most(parts int) int {
	if parts == 1 {
		return 0
	}
	return api.MaxItems
}

// 11.1, 11.2, P1: where several errors apply, that of the number of parts is told.
func TestErrArgFirst(t *testing.T) {
	for _, parts := range noParts {
		what := fmt.Sprint(parts, " parts")
		for _, key := range tooLong() {
			same(t, "Of "+what, answers(route.Of(parts, key)), answers(0, api.ErrArg))
			same(t, "Same "+what, answers(route.Same(parts, key, nil)), answers(false, api.ErrArg))
			same(t, "Same "+what, answers(route.Same(parts, nil, key)), answers(false, api.ErrArg))
			same(t, "Same "+what, answers(route.Same(parts, key, key)), answers(false, api.ErrArg))
			refused(t, what+" and a long key", api.ErrArg, parts, key)
			refused(t, what+" and long keys", api.ErrArg, parts, nil, key, key)
			refused(t, what+" and too many long keys", api.ErrArg, parts, slices.Repeat([][]byte{key}, api.MaxItems+1)...)
		}
		refused(t, what+" and too many keys", api.ErrArg, parts, make([][]byte, api.MaxItems+1)...)
	}
}

// told is what all calls tell of some keys that may be.
func told(keys [][]byte) string {
	var list []any
	for parts := 1; parts <= api.MaxParts; parts++ {
		list = append(list, answers(route.Sort(parts, keys...)), answers(route.Spread(parts, keys...)))
		for _, key := range keys {
			list = append(list, answers(route.Of(parts, key)), answers(route.Same(parts, key, keys[0])))
		}
	}
	return fmt.Sprint(list...)
}

// P2: behind calls that were refused, and others that were not, all is told as before.
func TestNothingStays(t *testing.T) {
	list := keys()
	was := told(list)
	for _, parts := range noParts {
		route.Of(parts, list[3])
		route.Same(parts, list[3], list[4])
		refused(t, "no parts", api.ErrArg, parts, list...)
	}
	for _, key := range tooLong() {
		route.Of(3, key)
		route.Same(3, list[3], key)
		refused(t, "a long key", api.ErrLong, 3, list[0], key)
	}
	refused(t, "too many keys", api.ErrLong, 3, append(list, list...)...)
	told(goingTo(2, 3, 50))
	same(t, "what is told later", told(list), was)
}

// No call changes the keys that it is given, their order, or what lies behind them, nor one that refuses them.
func TestKeysStay(t *testing.T) {
	given := append(keys(), tooLong()...)
	room := make([][]byte, 0, len(given)+8)
	for _, key := range given {
		room = append(room, append(slices.Clone(key), 1, 2, 3)[:len(key)])
	}
	room[0] = nil
	was := fmt.Sprint(wholes(room), room[0] == nil, room[1] == nil)
	for _, parts := range append([]int{1, 3, api.MaxParts}, noParts...) {
		for _, n := range []int{0, 1, 5, len(keys()), len(given)} {
			route.Sort(parts, room[:n]...)
			route.Spread(parts, room[:n]...)
		}
		for i, key := range room {
			route.Of(parts, key)
			route.Same(parts, key, room[len(room)-1-i])
			route.Same(parts, key, key)
		}
	}
	same(t, "the keys", fmt.Sprint(wholes(room), room[0] == nil, room[1] == nil), was)
}

// wholes are the keys of a list and of the room behind it, with the bytes behind each.
func wholes(list [][]byte) [][]byte {
	var all [][]byte
	for _, key := range list[:cap(list)] {
		all = append(all, key[:cap(key)])
	}
	return all
}
