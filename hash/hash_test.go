package hash_test

import (
	"bytes"
	"fmt"
	"hash/fnv"
	"math"
	"math/big"
	"slices"
	"strings"
	"testing"

	"postrider/api"
	"postrider/hash"
)

const (
	start      uint64 = 14695981039346656037
	smallStart uint32 = 2166136261
)

// The numbers that the document's limits, and the machine's, set apart.
var (
	edgeSums   = []uint64{0, 1, 255, 256, start, 1<<63 - 1, 1 << 63, math.MaxUint64 - 1, math.MaxUint64}
	edgeParts  = []int{1, 2, 3, 7, api.MaxParts, 10, 255, 256, 1 << 31, 1<<32 - 1, api.MaxOffset, 1 << 62, math.MaxInt - 1, math.MaxInt}
	noParts    = []int{0, -1, -2, -api.MaxParts, math.MinInt32, math.MinInt + 1, math.MinInt}
	manyLength = 1 << 20
)

// many are n bytes from a fixed rule, all kinds of them.
func many(n int) []byte {
	b := make([]byte, n)
	for i := range b {
		b[i] = byte(i*i/3 + i*7 + i>>8)
	}
	return b
}

// keys are lists of bytes of all sorts.
func keys() [][]byte {
	l := [][]byte{
		nil, {}, {0}, {1}, {97}, {127}, {128}, {255}, {0, 0}, {0, 255}, {255, 0}, {255, 255}, {0, 0, 0},
		[]byte("a"), []byte("foobar"), []byte("key"), []byte("é€𝄞"), []byte("a\x00b"),
		bytes.Repeat([]byte{0}, api.MaxKey), bytes.Repeat([]byte{255}, api.MaxKey+1),
	}
	for _, n := range []int{3, 4, 7, 8, 9, 31, api.MaxKey - 1, api.MaxKey, api.MaxKey + 1, api.MaxSize, api.MaxSize + 1, 1000} {
		l = append(l, many(n))
	}
	return l
}

// counted is the sum of so many bits as the document's words say it, counted with whole numbers that do not go round by themselves.
func counted(bits uint, from, times uint64, b []byte) uint64 {
	room := new(big.Int).Lsh(big.NewInt(1), bits)
	sum := new(big.Int).SetUint64(from)
	for _, x := range b {
		sum.Xor(sum, big.NewInt(int64(x)))
		sum.Mul(sum, new(big.Int).SetUint64(times))
		sum.Mod(sum, room)
	}
	return sum.Uint64()
}

func counted64(from uint64, b []byte) uint64 { return counted(64, from, 1099511628211, b) }

func counted32(b []byte) uint32 { return uint32(counted(32, uint64(smallStart), 16777619, b)) }

// remainder is that of a number without a sign, counted likewise.
func remainder(sum uint64, parts int) int {
	return int(new(big.Int).Mod(new(big.Int).SetUint64(sum), big.NewInt(int64(parts))).Int64())
}

func same(t *testing.T, what string, got, want any) {
	t.Helper()
	if g, w := fmt.Sprint(got), fmt.Sprint(want); g != w {
		t.Errorf("%s: %s, want %s", what, g, w)
	}
}

// answers are a call's results in a row, errors as numbers.
func answers(results ...any) []any {
	for i, r := range results {
		if e, ok := r.(api.Errno); ok {
			results[i] = int(e)
		}
	}
	return results
}

// short names a key in few letters.
func short(b []byte) string {
	if len(b) > 12 {
		return fmt.Sprint(len(b), " bytes from ", b[:12], " on")
	}
	return fmt.Sprint(b)
}

func Example() {
	fmt.Println(hash.Sum())
	fmt.Println(hash.Small(97))
	fmt.Println(hash.Part(4, 97))
	// Output:
	// 14695981039346656037
	// 3826002220
	// 0 error 0
}

// 3.1: sums that are known of FNV-1a.
func TestKnownSums(t *testing.T) {
	for _, c := range []struct {
		text  string
		sum   uint64
		small uint32
	}{
		{"", 0xcbf29ce484222325, 0x811c9dc5},
		{"a", 0xaf63dc4c8601ec8c, 0xe40c292c},
		{"b", 0xaf63df4c8601f1a5, 0xe70c2de5},
		{"c", 0xaf63de4c8601eff2, 0xe60c2c52},
		{"foo", 0xdcb27518fed9d577, 0xa9f37ed7},
		{"foobar", 0x85944171f73967e8, 0xbf9cf968},
	} {
		b := []byte(c.text)
		same(t, "Sum, Text and Small of "+c.text, answers(hash.Sum(b...), hash.Text(c.text), hash.Small(b...)), answers(c.sum, c.sum, c.small))
	}
}

// 3.1: of no bytes at all a sum is where it begins, and going on leaves it as it is.
func TestNoBytes(t *testing.T) {
	same(t, "sums of none", answers(hash.Sum(), hash.Small(), hash.Text("")), answers(start, smallStart, start))
	same(t, "sums of nil", answers(hash.Sum(nil...), hash.Small(nil...)), answers(start, smallStart))
	same(t, "sums of an empty list", answers(hash.Sum([]byte{}...), hash.Small([]byte{}...)), answers(start, smallStart))
	for _, sum := range edgeSums {
		same(t, "going on by none", answers(hash.On(sum), hash.On(sum, nil...), hash.On(sum, []byte{}...)), answers(sum, sum, sum))
	}
}

// 3.1: each byte alone, from any sum on: 0 and 255 are bytes as others are.
func TestOneByte(t *testing.T) {
	for x := range 256 {
		b := []byte{byte(x)}
		what := fmt.Sprint("the byte ", x)
		same(t, what, answers(hash.Sum(b...), hash.Small(b...)), answers(counted64(start, b), counted32(b)))
		same(t, what+" as a text", hash.Text(string(b)), counted64(start, b))
		for _, sum := range edgeSums {
			same(t, fmt.Sprint(what, " from ", sum, " on"), hash.On(sum, b...), counted64(sum, b))
		}
	}
}

// 3.1: sums of lists of all lengths are gone round as the words say.
func TestSums(t *testing.T) {
	for _, b := range keys() {
		same(t, "Sum and Small of "+short(b), answers(hash.Sum(b...), hash.Small(b...)), answers(counted64(start, b), counted32(b)))
		for _, sum := range edgeSums {
			same(t, fmt.Sprint("On from ", sum, " of ", short(b)), hash.On(sum, b...), counted64(sum, b))
		}
	}
}

// 3.1: going on from 0 by noughts stays 0, since nothing comes of 0; and from the greatest sum on it goes round.
func TestOnFromTheEnds(t *testing.T) {
	same(t, "from 0 on by noughts", hash.On(0, make([]byte, 1000)...), uint64(0))
	same(t, "from 0 on", answers(hash.On(0, 1), hash.On(0, 255)), answers(uint64(1099511628211), uint64(255*1099511628211)))
	// -1 xor 0 is -1, which makes minus the factor; -1 xor 255 is -256.
	less := func(n uint64) uint64 { return math.MaxUint64 - n + 1 }
	same(t, "from the greatest on", answers(hash.On(math.MaxUint64, 0), hash.On(math.MaxUint64, 255)),
		answers(less(1099511628211), less(256*1099511628211)))
}

// 3.1: the library's sums of very many bytes are these.
func TestManyBytes(t *testing.T) {
	b := many(manyLength)
	long, small := fnv.New64a(), fnv.New32a()
	long.Write(b)
	small.Write(b)
	same(t, "Sum and Small of very many", answers(hash.Sum(b...), hash.Small(b...)), answers(long.Sum64(), small.Sum32()))
	same(t, "Text and On of very many", answers(hash.Text(string(b)), hash.On(start, b...)), answers(long.Sum64(), long.Sum64()))
}

// 3.1: a text's sum is that of its bytes, not of its characters, and of bytes that make none, too.
func TestText(t *testing.T) {
	for _, s := range []string{
		"", "a", "a/b", "é", "€", "𝄞", "aé€𝄞z", "日本語", "\x00", "\x00\x00", "a\x00b", "\xff", "\xff\xfe\x80", "é\xc3", "\xf0\x9d\x84",
		"\ufffd", strings.Repeat("€", 1000), strings.Repeat("x", api.MaxText+1),
	} {
		b := []byte(s)
		same(t, fmt.Sprintf("Text of %d bytes from %.9q on", len(s), s), answers(hash.Text(s), hash.Text(s)), answers(counted64(start, b), hash.Sum(b...)))
	}
	for _, b := range keys() {
		same(t, "Text of "+short(b), hash.Text(string(b)), hash.Sum(b...))
	}
}

// 3.1: the order of the bytes counts, and so does how many noughts there are.
func TestOrderCounts(t *testing.T) {
	if hash.Sum(1, 2) == hash.Sum(2, 1) || hash.Small(1, 2) == hash.Small(2, 1) {
		t.Error("bytes in another order have the same sum")
	}
	seen, seenSmall := map[uint64]int{}, map[uint32]int{}
	for n := range 1000 {
		b := make([]byte, n)
		seen[hash.Sum(b...)]++
		seenSmall[hash.Small(b...)]++
	}
	same(t, "sums of 0 to 999 noughts", answers(len(seen), len(seenSmall)), answers(1000, 1000))
}

// 3.2: a part is the remainder of the sum as a number without a sign, of keys of all sorts and numbers of parts of all sizes.
func TestPart(t *testing.T) {
	for _, key := range keys() {
		sum := counted64(start, key)
		for _, parts := range edgeParts {
			at, e := hash.Part(parts, key...)
			same(t, fmt.Sprint("Part(", parts, ") of ", short(key)), answers(at, e), answers(remainder(sum, parts), 0))
		}
	}
}

// 3.2: sums whose topmost bit is set are numbers above any int, and their remainders are such numbers', as those of the others.
func TestPartOfEitherHalf(t *testing.T) {
	set := 0
	for x := range 256 {
		key := []byte{byte(x), 7, 7, byte(x)}
		sum := counted64(start, key)
		set += int(sum >> 63)
		for _, parts := range edgeParts {
			at, e := hash.Part(parts, key...)
			same(t, fmt.Sprint("Part(", parts, ") of a sum of ", sum), answers(at, e), answers(remainder(sum, parts), 0))
		}
	}
	if set < 64 || set > 192 {
		t.Errorf("of 256 sums %d have the topmost bit set: too few of one half", set)
	}
	top, e := hash.Part(math.MaxInt) // of no key the sum is one of these
	same(t, "Part of no key", answers(top, e), answers(int(start-math.MaxInt), 0))
}

// 3.2: one part is always the first.
func TestOnePart(t *testing.T) {
	for _, key := range keys() {
		at, e := hash.Part(1, key...)
		same(t, "Part(1) of "+short(key), answers(at, e), answers(0, 0))
	}
}

// 3.2, P1, P2: a number of parts below 1 is refused with 0, whatever the key is, and nothing is another way behind it.
func TestPartErrArg(t *testing.T) {
	for _, key := range keys() {
		was, _ := hash.Part(7, key...)
		for _, parts := range noParts {
			at, e := hash.Part(parts, key...)
			same(t, fmt.Sprint("Part(", parts, ") of ", short(key)), answers(at, e), answers(0, api.ErrArg))
		}
		at, e := hash.Part(7, key...)
		same(t, "Part(7) behind what was refused", answers(at, e), answers(was, 0))
	}
}

// 3.3: in two pieces, cut anywhere, in single bytes, and with pieces of none between: as at once.
func TestOnByPieces(t *testing.T) {
	for _, b := range keys() {
		for _, from := range edgeSums {
			whole := hash.On(from, b...)
			single := from
			for cut := range len(b) + 1 {
				if got := hash.On(hash.On(from, b[:cut]...), b[cut:]...); got != whole {
					t.Errorf("from %d on, %s, cut at %d: %d, want %d", from, short(b), cut, got, whole)
				}
				if cut < len(b) {
					single = hash.On(hash.On(single, b[cut]))
				}
			}
			same(t, "single bytes of "+short(b), single, whole)
		}
		same(t, "On from where Sum begins, and from Sum of none", answers(hash.On(start, b...), hash.On(hash.Sum(), b...)), answers(hash.Sum(b...), hash.Sum(b...)))
		same(t, "On from Text of none", hash.On(hash.Text(""), b...), hash.Text(string(b)))
	}
}

// 3.3: in three pieces, cut anywhere.
func TestOnByThreePieces(t *testing.T) {
	b := many(40)
	for i := range len(b) + 1 {
		for j := i; j <= len(b); j++ {
			if got := hash.On(hash.On(hash.Sum(b[:i]...), b[i:j]...), b[j:]...); got != hash.Sum(b...) {
				t.Errorf("cut at %d and %d: %d, want %d", i, j, got, hash.Sum(b...))
			}
		}
	}
}

// 3.4: bytes of one length that differ in one place have sums that all differ, wherever the place is.
func TestToldApart(t *testing.T) {
	for _, b := range keys() {
		for _, at := range []int{0, 1, len(b) / 2, len(b) - 2, len(b) - 1} {
			if at < 0 || at >= len(b) {
				continue
			}
			c := slices.Clone(b)
			sums, small, texts := map[uint64]int{}, map[uint32]int{}, map[uint64]int{}
			for x := range 256 {
				c[at] = byte(x)
				sums[hash.Sum(c...)]++
				small[hash.Small(c...)]++
				texts[hash.Text(string(c))]++
			}
			same(t, fmt.Sprint("other bytes at ", at, " of ", short(b)), answers(len(sums), len(small), len(texts)), answers(256, 256, 256))
		}
	}
}

// 3.4: so it is from any sum on.
func TestToldApartFromAnySum(t *testing.T) {
	for _, from := range edgeSums {
		for _, behind := range [][]byte{nil, {0}, {255, 0, 255}, many(300)} {
			sums := map[uint64]int{}
			for x := range 256 {
				sums[hash.On(hash.On(from, byte(x)), behind...)]++
			}
			same(t, fmt.Sprint("from ", from, " on, with ", len(behind), " bytes behind"), len(sums), 256)
		}
	}
}

// 3.4: other sums from the same bytes on stay others.
func TestToldApartByWhatIsAhead(t *testing.T) {
	for _, b := range keys() {
		sums := map[uint64]int{}
		for _, from := range edgeSums {
			sums[hash.On(from, b...)]++
		}
		same(t, "from other sums on by "+short(b), len(sums), len(edgeSums))
	}
}

// 3.5: a part is one of the parts, and all of few parts are had by some key.
func TestPartIsOne(t *testing.T) {
	for parts := 1; parts <= 2*api.MaxParts; parts++ {
		had := map[int]int{}
		for x := range 256 {
			for y := range 8 {
				at, e := hash.Part(parts, byte(x), byte(y))
				if e != api.OK || at < 0 || at >= parts {
					t.Errorf("Part(%d, %d, %d): %d, %d", parts, x, y, at, int(e))
				}
				had[at]++
			}
		}
		same(t, fmt.Sprint("of ", parts, " parts had"), len(had), parts)
	}
	for _, key := range keys() {
		for _, parts := range edgeParts {
			if at, e := hash.Part(parts, key...); e != api.OK || at < 0 || at >= parts {
				t.Errorf("Part(%d) of %s: %d, %d", parts, short(key), at, int(e))
			}
		}
	}
}

// 3.5: the same key has the same part, from whatever list it is taken and whatever is asked between.
func TestSameKeySamePart(t *testing.T) {
	for _, key := range keys() {
		for _, parts := range edgeParts {
			was, _ := hash.Part(parts, key...)
			hash.Part(parts, append(slices.Clone(key), 1)...)
			hash.Sum(9)
			again, _ := hash.Part(parts, key...)
			other, _ := hash.Part(parts, append(make([]byte, 0, 2*len(key)+3), key...)...)
			text, _ := hash.Part(parts, []byte(string(key))...)
			same(t, "Part again", answers(again, other, text), answers(was, was, was))
		}
	}
}

// What is handed in is not changed, and not kept: a list that is written to later has the sum of what it is then.
func TestKeepsNothing(t *testing.T) {
	for _, b := range keys() {
		whole := append(slices.Clone(b), 3, 4)
		b := whole[:len(b)]
		was := slices.Clone(whole)
		sum, small, on := hash.Sum(b...), hash.Small(b...), hash.On(5, b...)
		at, _ := hash.Part(1000, b...)
		same(t, "the caller's bytes", whole, was)
		if len(b) == 0 {
			continue
		}
		b[0]++
		same(t, "sums of other bytes in the same list", answers(hash.Sum(b...), hash.Small(b...), hash.On(5, b...)), answers(counted64(start, b), counted32(b), counted64(5, b)))
		b[0]--
		again, _ := hash.Part(1000, b...)
		same(t, "sums of the first bytes again", answers(hash.Sum(b...), hash.Small(b...), hash.On(5, b...), again), answers(sum, small, on, at))
	}
}
