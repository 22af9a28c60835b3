package trie_test

import (
	"fmt"
	"math"
	"slices"
	"strings"
	"testing"

	"postrider/api"
	"postrider/trie"
)

// pair is a filter, and a number that stands for it.
type pair struct {
	filter string
	n      int
}

// noNumbers are numbers that may not be.
var noNumbers = []int{math.MinInt, math.MinInt + 1, -api.MaxOffset, -api.MaxItems, -2, -1, api.MaxItems, api.MaxItems + 1, 2 * api.MaxItems, api.MaxOffset, math.MaxInt - 1, math.MaxInt}

// long is a text of n bytes, in one level.
func long(n int) string { return strings.Repeat("x", n) }

// filters are filters of all sorts: with a +, with a #, with both, and with neither.
func filters() []string {
	return []string{
		"a", "b", "!", "~", "ab", "a/b", "a/b/c", "b/a", "a!b", "a!", "a!/b", "a0", "a0/b", long(api.MaxName), "a/b/c/d/e/f/g/h",
		"/", "//", "/a", "a/", "/a/", "//a", "a//", "a//b", "///////", "/" + long(api.MaxName-1), long(api.MaxName-1) + "/",
		"$", "$a", "$/", "$a/b", "/$a", "a/$b", "$///////",
		"+", "+/a", "a/+", "a/+/c", "+/+", "+/b/+", "/+", "+/", "/+/", "+//+", "$a/+", "+/$a", "+/+/+/+/+/+/+/+", long(62) + "/+", "+/" + long(62),
		"#", "a/#", "a/b/#", "a/b/c/d/e/f/g/#", "/#", "//#", "a//#", "$a/#", "$/#", "a/$/#", long(62) + "/#",
		"+/#", "a/+/#", "+/a/#", "+/+/#", "/+/#", "+//#", "$a/+/#", "+/+/+/+/+/+/+/#", "+/" + long(60) + "/#",
	}
}

// names are names of all sorts: those among the filters, and others that no filter is the same as.
func names() []string {
	list := []string{"c", "a/c", "a/b/d", "x/b/c", "b/b/b", "a/x/c", "a//c", "/b", "x/", "/x/", "x//x", "a///b", "$b", "$/x", "$b/a", "$a/x", "$a/b/c", "$x/b/c/d/e/f/g/h", "x/$a", "a/$", "a/b/c/d/e/f/g", "h/g/f/e/d/c/b/a", "a/b/c/d/e/f/g/", long(62), long(62) + "/x", "x/" + long(62), "x/" + long(60) + "/x", "$/" + long(62)}
	for _, s := range filters() {
		if !strings.ContainsAny(s, "+#") {
			list = append(list, s)
		}
	}
	return list
}

// neither are texts that are no filters, and no names, of all sorts.
func neither() []string {
	return []string{
		"", long(api.MaxName + 1), long(2 * api.MaxName), long(1 << 20), "/" + long(api.MaxName), long(63) + "/+", "+/" + long(61) + "/#",
		"////////", "a/b/c/d/e/f/g/h/i", "a/b/c/d/e/f/g/h/", "+/+/+/+/+/+/+/+/+", "a/b/c/d/e/f/g/h/#", strings.Repeat("/", 1<<20),
		"a+", "+a", "++", "a/b+", "a+/b", "$+", "a#", "#a", "##", "a/b#", "$#", "+#", "#+", "a/+#",
		"#/", "#/a", "#/+", "#/#", "a/#/", "a/#/b", "+/#/a", "/#/",
		" ", "a b", "a/ ", "+ ", "# ", "\t", "a\n", "\x00", "a/\x00", "\x1f", "\x7f", "a/\x7f", "é", "a/é", "+/é", "\x80", "\xff", "a/\xff",
	}
}

// wild are filters that are no names.
func wild() []string {
	return slices.DeleteFunc(filters(), func(s string) bool { return !strings.ContainsAny(s, "+#") })
}

// short is a text to tell of; of a long one just the beginning.
func short(s string) string {
	if len(s) > 100 {
		return fmt.Sprintf("%q .. of %d bytes", s[:100], len(s))
	}
	return fmt.Sprintf("%q", s)
}

// holds holds what calls answered against what they are to answer: in numbers, texts and lists of them, of which those without members are all the same.
func holds(t *testing.T, what string, got []any, want ...any) {
	t.Helper()
	for i, g := range got {
		if e, ok := g.(api.Errno); ok {
			got[i] = int(e)
		}
	}
	for i, w := range want {
		if e, ok := w.(api.Errno); ok {
			want[i] = int(e)
		}
	}
	if g, w := fmt.Sprintf("%q", got), fmt.Sprintf("%q", want); g != w {
		t.Errorf("%s: %v, want %v", what, got, want)
	}
}

// answers are a call's results in a row.
func answers(results ...any) []any { return results }

// put puts pairs into a tree, which takes them.
func put(t *testing.T, tree *trie.Tree, pairs ...pair) {
	t.Helper()
	for _, p := range pairs {
		if e := tree.Put(p.filter, p.n); e != api.OK {
			t.Fatalf("Put(%s, %d): %d", short(p.filter), p.n, int(e))
		}
	}
}

// take takes pairs, which it has, from a tree.
func take(t *testing.T, tree *trie.Tree, pairs ...pair) {
	t.Helper()
	for _, p := range pairs {
		if e := tree.Take(p.filter, p.n); e != api.OK {
			t.Fatalf("Take(%s, %d): %d", short(p.filter), p.n, int(e))
		}
	}
}

// made is a tree of these pairs.
func made(t *testing.T, pairs ...pair) *trie.Tree {
	t.Helper()
	tree := trie.Make()
	put(t, tree, pairs...)
	return tree
}

// numbered are pairs of these filters: the first one with 0, the next one with 1, and so on.
func numbered(filters ...string) []pair {
	var list []pair
	for i, s := range filters {
		list = append(list, pair{s, i})
	}
	return list
}

// several are pairs of one filter.
func several(filter string, numbers ...int) []pair {
	var list []pair
	for _, n := range numbers {
		list = append(list, pair{filter, n})
	}
	return list
}

// upTo are the numbers from 0 to n - 1.
func upTo(n int) []int {
	var list []int
	for i := range n {
		list = append(list, i)
	}
	return list
}

// most are MaxItems pairs, of which each filter has so many.
func most(each int) []pair {
	var list []pair
	for i := range api.MaxItems {
		list = append(list, pair{fmt.Sprintf("a/%d/+", i/each), i % each})
	}
	return list
}

// unmade are the trees that no call made.
func unmade() map[string]*trie.Tree {
	return map[string]*trie.Tree{"nil": nil, "plain": {}, "new": new(trie.Tree)}
}

func Example() {
	tree := trie.Make()
	tree.Put("a/+", 1)
	tree.Put("a/#", 2)
	tree.Put("b", 1)
	fmt.Println(tree.Match("a/b"))
	fmt.Println(tree.Nodes())
	// Output:
	// [1 2] error 0
	// 5
}

// 10.1, 10.2: an empty tree has its root, and nothing else.
func TestEmpty(t *testing.T) {
	tree := trie.Make()
	for _, s := range filters() {
		holds(t, "Of "+short(s), answers(tree.Of(s)), []int{}, api.OK)
		holds(t, "Take "+short(s), answers(tree.Take(s, 0)), api.ErrNone)
	}
	for _, s := range names() {
		holds(t, "Match "+short(s), answers(tree.Match(s)), []int{}, api.OK)
	}
	for _, n := range []int{0, 1, api.MaxItems - 1} {
		holds(t, "Drop", answers(tree.Drop(n)), 0)
	}
	holds(t, "an empty tree", answers(tree.Pairs(), tree.Nodes(), tree.Filters()), 0, 1, []string{})
}

// 10.1, 10.2: each filter alone, with the least and the greatest number, put and taken.
func TestEachFilterAlone(t *testing.T) {
	for _, s := range filters() {
		for _, n := range []int{0, 1, api.MaxItems - 1} {
			tree := trie.Make()
			holds(t, "Put "+short(s), answers(tree.Put(s, n)), api.OK)
			holds(t, "with "+short(s), answers(tree.Pairs(), tree.Nodes(), tree.Filters()), 1, strings.Count(s, "/")+2, []string{s})
			holds(t, "Of "+short(s), answers(tree.Of(s)), []int{n}, api.OK)
			for _, other := range filters() {
				if got, _ := tree.Of(other); other != s && len(got) > 0 {
					t.Errorf("with %s, Of %s: %v", short(s), short(other), got)
				}
			}
			holds(t, "Take "+short(s), answers(tree.Take(s, n)), api.OK)
			holds(t, "without "+short(s), answers(tree.Pairs(), tree.Nodes(), tree.Filters()), 0, 1, []string{})
			holds(t, "Of "+short(s)+", taken", answers(tree.Of(s)), []int{}, api.OK)
		}
	}
}

// 10.1, 10.2: several numbers of one filter rise, however they are put, and are one filter.
func TestNumbersOfOneFilter(t *testing.T) {
	for _, order := range [][]int{{0, 7, 8, 255}, {255, 8, 7, 0}, {8, 0, 255, 7}, {7, 255, 0, 8}} {
		tree := made(t, several("a/#", order...)...)
		holds(t, fmt.Sprint("Of ", order), answers(tree.Of("a/#")), []int{0, 7, 8, 255}, api.OK)
		holds(t, fmt.Sprint("Match ", order), answers(tree.Match("a/b")), []int{0, 7, 8, 255}, api.OK)
		holds(t, fmt.Sprint("all of ", order), answers(tree.Pairs(), tree.Nodes(), tree.Filters()), 4, 3, []string{"a/#"})
		take(t, tree, pair{"a/#", 8})
		holds(t, fmt.Sprint("Of ", order, " without 8"), answers(tree.Of("a/#")), []int{0, 7, 255}, api.OK)
		take(t, tree, several("a/#", 0, 255)...)
		holds(t, fmt.Sprint("the last of ", order), answers(tree.Pairs(), tree.Nodes(), tree.Filters()), 1, 3, []string{"a/#"})
		holds(t, fmt.Sprint("Of the last of ", order), answers(tree.Of("a/#")), []int{7}, api.OK)
	}
}

// 10.1: one number of several filters is taken from one of them alone, and dropped from all.
func TestOneNumberOfSeveralFilters(t *testing.T) {
	tree := made(t, pair{"a", 3}, pair{"a/b", 3}, pair{"a/b", 4}, pair{"+", 3}, pair{"#", 4}, pair{"b/#", 3})
	take(t, tree, pair{"+", 3})
	holds(t, "Take", answers(tree.Take("+", 3)), api.ErrNone)
	holds(t, "without +", answers(tree.Pairs(), tree.Nodes(), tree.Filters()), 5, 6, []string{"#", "a", "a/b", "b/#"})
	holds(t, "Drop", answers(tree.Drop(3)), 3)
	holds(t, "without 3", answers(tree.Pairs(), tree.Nodes(), tree.Filters()), 2, 4, []string{"#", "a/b"})
	holds(t, "Of a/b", answers(tree.Of("a/b")), []int{4}, api.OK)
	holds(t, "Of a", answers(tree.Of("a")), []int{}, api.OK)
	holds(t, "Drop again", answers(tree.Drop(3), tree.Drop(5)), 0, 0)
	holds(t, "Drop the last ones", answers(tree.Drop(4)), 2)
	holds(t, "empty", answers(tree.Pairs(), tree.Nodes(), tree.Filters()), 0, 1, []string{})
}

// 10.1, P1, P2: a pair that is there already, and one that is not: of a filter without numbers, of one with others, of one that begins another.
func TestSameAndNone(t *testing.T) {
	tree := made(t, pair{"a/b", 1}, pair{"a/+", 2})
	before := told(tree)
	for _, p := range []pair{{"a/b", 1}, {"a/+", 2}} {
		holds(t, "Put "+p.filter, answers(tree.Put(p.filter, p.n)), api.ErrSame)
	}
	for _, p := range []pair{{"a/b", 2}, {"a/b", 0}, {"a/+", 1}, {"a", 1}, {"a/c", 1}, {"a/b/c", 1}, {"b", 1}, {"+", 2}, {"#", 1}, {"+/+", 2}, {"/b", 1}, {"a/", 1}, {"a/b/", 1}, {"$a/b", 1}} {
		holds(t, "Take "+p.filter, answers(tree.Take(p.filter, p.n)), api.ErrNone)
	}
	if after := told(tree); after != before {
		t.Errorf("what was refused changed %s to %s", before, after)
	}
}

// 10.1, P1, P2: MaxItems pairs, and one more; what is told ahead of it; there is room again behind a Take, and behind a Drop.
func TestFull(t *testing.T) {
	for _, each := range []int{1, 2, 16, 128, api.MaxItems} {
		pairs := most(each)
		tree := made(t, pairs...)
		before := told(tree)
		nodes := tree.Nodes()
		holds(t, "a full tree", answers(tree.Pairs(), nodes), api.MaxItems, 2+2*api.MaxItems/each)
		more := []pair{{"b", 0}, {"b", api.MaxItems - 1}, {"#", 0}, {"a", 0}, {"a/0", 0}, {"a/0/+/+", 0}}
		if each < api.MaxItems {
			more = append(more, pair{"a/0/+", each}, pair{"a/0/+", api.MaxItems - 1})
		}
		for _, p := range more {
			holds(t, "one more: "+p.filter, answers(tree.Put(p.filter, p.n)), api.ErrFull)
			holds(t, "one more, of no number: "+p.filter, answers(tree.Put(p.filter, api.MaxItems)), api.ErrArg)
		}
		holds(t, "no filter", answers(tree.Put("a+", 0), tree.Put("a+", -1), tree.Put("a/0/+", 0)), api.ErrFilter, api.ErrFilter, api.ErrSame)
		if told(tree) != before || tree.Nodes() != nodes {
			t.Errorf("%d numbers a filter: what was refused changed the tree", each)
		}

		for _, p := range []pair{pairs[0], pairs[100], pairs[api.MaxItems-1]} {
			take(t, tree, p)
			put(t, tree, pair{"c", 9})
			holds(t, "full again", answers(tree.Pairs(), tree.Put("d", 9), tree.Put(p.filter, p.n)), api.MaxItems, api.ErrFull, api.ErrFull)
			take(t, tree, pair{"c", 9})
			put(t, tree, p)
		}
		dropped := api.MaxItems / each
		holds(t, "Drop", answers(tree.Drop(0), tree.Pairs()), dropped, api.MaxItems-dropped)
		for i := range dropped {
			put(t, tree, pair{fmt.Sprint("e/", i), 7})
		}
		holds(t, "full behind a Drop", answers(tree.Pairs(), tree.Put("f", 7)), api.MaxItems, api.ErrFull)
	}
}

// 10.1, 10.2, 10.4: filters that begin each other, put and taken in both orders: nodes go just where no filter begins with them any more.
func TestBeginnings(t *testing.T) {
	for _, c := range []struct{ first, second string }{{"a", "a/b"}, {"a", "a/b/c/d"}, {"a", "a/+"}, {"a", "a/#"}, {"+", "+/#"}, {"a/b/c/d/e/f/g", "a/b/c/d/e/f/g/h"}, {"/", "//"}, {"/", "/////"}, {"a", "a/"}, {"$", "$/#"}} {
		one, two := strings.Count(c.first, "/")+2, strings.Count(c.second, "/")+2
		a, b := pair{c.first, 1}, pair{c.second, 2}

		tree := made(t, a)
		holds(t, c.first, answers(tree.Nodes()), one)
		put(t, tree, b)
		holds(t, c.first+" and "+c.second, answers(tree.Nodes(), tree.Filters()), two, []string{c.first, c.second})
		take(t, tree, a)
		holds(t, c.second+" alone", answers(tree.Nodes(), tree.Filters()), two, []string{c.second})
		put(t, tree, a)
		take(t, tree, b)
		holds(t, c.first+" alone", answers(tree.Nodes(), tree.Filters()), one, []string{c.first})
		take(t, tree, a)
		holds(t, "none of them", answers(tree.Nodes()), 1)

		put(t, tree, b)
		holds(t, c.second, answers(tree.Nodes()), two)
		put(t, tree, a)
		holds(t, c.second+" and "+c.first, answers(tree.Nodes(), tree.Filters()), two, []string{c.first, c.second})
		take(t, tree, b, a)
		holds(t, "none of them again", answers(tree.Nodes()), 1)
	}
}

// 10.2: a node for each beginning of whole levels of the filters, once, and the root.
func TestNodes(t *testing.T) {
	for _, c := range []struct {
		filters string // between blanks
		want    int
	}{
		{"a", 2}, {"a b", 3}, {"a ab", 3}, {"ab/c abc", 4}, {"a/b", 3}, {"a/b a/c", 4}, {"a/b b/a", 5}, {"a/b b/b", 5}, {"a/b a/b/c", 4}, {"a/b/c a/c/b", 6},
		{"+", 2}, {"+ #", 3}, {"+ # a", 4}, {"a/+ a/#", 4}, {"a/+/b a/#", 5}, {"+/+ +/#", 4}, {"a/+ +/a", 5}, {"+/a/# #", 5},
		{"/", 3}, {"// /", 4}, {"/a a", 4}, {"a/ a", 3}, {"a// a/b", 5}, {"/a/ /b/", 6}, {"$ $/a $a", 4},
		{"a/b/c/d/e/f/g/h", 9}, {"a/b/c/d/e/f/g/h a/b/c/d/e/f/g/+ a/b/c/d/e/f/g/#", 11}, {"a/b/c/d/e/f/g/h b/b/c/d/e/f/g/h", 17},
		{long(64), 2}, {long(64) + " " + long(63), 3},
	} {
		list := strings.Fields(c.filters)
		tree := made(t, numbered(list...)...)
		holds(t, "Nodes of "+c.filters, answers(tree.Nodes(), tree.Pairs()), c.want, len(list))
		put(t, tree, several(list[0], 100, 200, 255)...)
		holds(t, "Nodes of "+c.filters+", with more numbers", answers(tree.Nodes(), tree.Pairs()), c.want, len(list)+3)
	}
}

// 10.2: filters rise byte by byte, which is not level by level: some bytes are ahead of a stroke, others behind it.
func TestFiltersRise(t *testing.T) {
	list := []string{"!", "#", "$", "$/a", "$a", "+", "+/#", "+/+", "+/a", "/", "/#", "/!", "//", "/a", "0", "a", "a!", "a!/b", "a!b", "a-", "a-/#", "a/", "a/!", "a/#", "a/+", "a/b", "a/b!", "a/b/c", "a0", "a0/b", "ab", "b", "~", long(64)}
	slices.Sort(list)
	for _, order := range [][]string{list, backwards(list)} {
		tree := made(t, numbered(order...)...)
		holds(t, "Filters", answers(tree.Filters()), list)
	}
	for i, s := range list {
		for _, other := range list[i+1:] {
			tree := made(t, pair{other, 1}, pair{s, 2})
			holds(t, "Filters of two", answers(tree.Filters()), []string{s, other})
		}
	}
	tree := made(t, numbered("a/b", "a!b", "a0b", "a")...)
	holds(t, "Filters of four", answers(tree.Filters()), []string{"a", "a!b", "a/b", "a0b"})
}

// backwards is a list from its end on.
func backwards[A any](list []A) []A {
	list = slices.Clone(list)
	slices.Reverse(list)
	return list
}

// 10.1, 10.2, P1, P2: texts that are no filters, and numbers that may not be; the filter is looked at ahead of the number, and both ahead of all else.
func TestWrong(t *testing.T) {
	for name, tree := range map[string]*trie.Tree{"empty": trie.Make(), "some": made(t, numbered(filters()...)...), "full": made(t, most(4)...)} {
		before := told(tree)
		for _, s := range neither() {
			for _, n := range append([]int{0, 1, api.MaxItems - 1}, noNumbers...) {
				holds(t, "Put "+short(s), answers(tree.Put(s, n)), api.ErrFilter)
				holds(t, "Take "+short(s), answers(tree.Take(s, n)), api.ErrFilter)
			}
			holds(t, "Of "+short(s), answers(tree.Of(s)), []int{}, api.ErrFilter)
		}
		for _, s := range append(neither(), wild()...) {
			holds(t, "Match "+short(s), answers(tree.Match(s)), []int{}, api.ErrName)
		}
		for _, n := range noNumbers {
			for _, s := range append(filters(), "a/0/+", "a/1/+") {
				holds(t, fmt.Sprint("Put ", short(s), ", ", n), answers(tree.Put(s, n)), api.ErrArg)
				holds(t, fmt.Sprint("Take ", short(s), ", ", n), answers(tree.Take(s, n)), api.ErrArg)
			}
			holds(t, fmt.Sprint("Drop ", n), answers(tree.Drop(n)), 0)
		}
		holds(t, "Drop of a number that no filter has", answers(tree.Drop(api.MaxItems-1)), 0)
		if after := told(tree); after != before {
			t.Errorf("what was refused changed the tree %s: %s, was %s", name, after, before)
		}
	}
}

// P1: a tree that no call made, whatever it is asked.
func TestUnmade(t *testing.T) {
	for name, tree := range unmade() {
		for range 2 { // nothing is done: the second time it is as the first
			for _, s := range []string{"a", "a/+", "#", "$", "", "a+", long(65), long(64)} {
				for _, n := range append([]int{0, 1, api.MaxItems - 1}, noNumbers...) {
					holds(t, name+": Put", answers(tree.Put(s, n)), api.ErrNil)
					holds(t, name+": Take", answers(tree.Take(s, n)), api.ErrNil)
					holds(t, name+": Drop", answers(tree.Drop(n)), 0)
				}
				holds(t, name+": Of", answers(tree.Of(s)), []int{}, api.ErrNil)
				holds(t, name+": Match", answers(tree.Match(s)), []int{}, api.ErrNil)
			}
			holds(t, name, answers(tree.Filters(), tree.Pairs(), tree.Nodes()), []string{}, 0, 0)
		}
	}
}

// P2: what a call hands out is the caller's own: the tree, and other lists, stay as they are, whatever becomes of it.
func TestHandedOut(t *testing.T) {
	pairs := []pair{{"a", 1}, {"a", 2}, {"a", 3}, {"+", 2}, {"#", 3}, {"#", 4}, {"a/b", 9}}
	tree := made(t, pairs...)
	before := told(tree)
	spoil := func(list []int) {
		for i := range list {
			list[i] = 77
		}
		_ = append(list[:0], 78, 79)
		_ = append(list, 80)
	}
	for _, s := range []string{"a", "+", "#", "a/b"} {
		first, _ := tree.Of(s)
		second, _ := tree.Of(s)
		was := slices.Clone(second)
		spoil(first)
		holds(t, "Of "+s+", asked ahead", answers(second), was)
	}
	for _, s := range []string{"a", "a/b", "b"} {
		first, _ := tree.Match(s)
		second, _ := tree.Match(s)
		was := slices.Clone(second)
		spoil(first)
		holds(t, "Match "+s+", asked ahead", answers(second), was)
	}
	first, second := tree.Filters(), tree.Filters()
	for i := range first {
		first[i] = "?"
	}
	_ = append(first[:0], "!")
	holds(t, "Filters, asked ahead", answers(second), []string{"#", "+", "a", "a/b"})
	if after := told(tree); after != before {
		t.Errorf("what was handed out changed %s to %s", before, after)
	}
}

// P2: what was handed out ahead stays as it is, whatever is put and taken behind it.
func TestHandedOutStays(t *testing.T) {
	tree := made(t, several("a", 2, 4, 6, 8)...)
	of, _ := tree.Of("a")
	match, _ := tree.Match("a")
	list := tree.Filters()
	put(t, tree, several("a", 0, 5, 9)...)
	take(t, tree, several("a", 2, 6)...)
	tree.Drop(4)
	put(t, tree, pair{"A", 1}, pair{"a/b", 1})
	holds(t, "what was handed out", answers(of, match, list), []int{2, 4, 6, 8}, []int{2, 4, 6, 8}, []string{"a"})
}

// P2: one tree knows nothing of another one.
func TestTreesOfTheirOwn(t *testing.T) {
	one, two := made(t, pair{"a/b", 1}), made(t, pair{"a/b", 2}, pair{"#", 3})
	take(t, one, pair{"a/b", 1})
	put(t, one, pair{"c", 5})
	holds(t, "one", answers(one.Pairs(), one.Nodes(), one.Filters()), 1, 2, []string{"c"})
	holds(t, "two", answers(two.Pairs(), two.Nodes(), two.Filters()), 2, 4, []string{"#", "a/b"})
	holds(t, "match of two", answers(two.Match("a/b")), []int{2, 3}, api.OK)
}
