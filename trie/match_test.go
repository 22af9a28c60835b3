package trie_test

import (
	"fmt"
	"slices"
	"strings"
	"testing"

	"postrider/api"
	"postrider/filter"
	"postrider/name"
	"postrider/trie"
)

// 10.2: what of many filters matches a name, written out.
func TestMatch(t *testing.T) {
	list := filters()
	tree := made(t, numbered(list...)...)
	for s, want := range map[string]string{ // the filters that match, between blanks
		"a":     "a + # a/# +/#",
		"b":     "b + # +/#",
		"ab":    "ab + # +/#",
		"!":     "! + # +/#",
		"a/b":   "a/b a/+ +/+ # a/# a/b/# +/# a/+/# +/+/#",
		"b/a":   "b/a +/a +/+ # +/# +/a/# +/+/#",
		"a/b/c": "a/b/c a/+/c +/b/+ # a/# a/b/# +/# a/+/# +/+/#",
		"/":     "/ /+ +/ +/+ # /# //# +/# +/+/# /+/# +//#",
		"//":    "// /+/ +//+ # /# //# +/# +/+/# /+/# +//#",
		"/a":    "/a /+ +/a +/+ # /# +/# +/a/# +/+/# /+/#",
		"a/":    "a/ a/+ +/ +/+ # a/# a//# +/# a/+/# +/+/# +//#",
		"a//b":  "a//b +//+ # a/# a//# +/# a/+/# +/+/# +//#",
		"a!b":   "a!b + # +/#",
		"$":     "$ $/#",
		"$a":    "$a $a/#",
		"$b":    "",
		"$/":    "$/ $/#",
		"$/x":   "$/#",
		"$a/b":  "$a/b $a/+ $a/# $a/+/#",
		"$b/a":  "",
		"/$a":   "/$a /+ +/$a +/+ # /# +/# +/+/# /+/#",
		"a/$b":  "a/$b a/+ +/+ # a/# +/# a/+/# +/+/#",
		"x/$a":  "+/$a +/+ # +/# +/+/#",

		"a/b/c/d/e/f/g":   "a/b/c/d/e/f/g/# # a/# a/b/# +/# a/+/# +/+/# +/+/+/+/+/+/+/#",
		"a/b/c/d/e/f/g/h": "a/b/c/d/e/f/g/h +/+/+/+/+/+/+/+ a/b/c/d/e/f/g/# # a/# a/b/# +/# a/+/# +/+/# +/+/+/+/+/+/+/#",
		"///////":         "/////// +/+/+/+/+/+/+/+ # /# //# +/# +/+/# /+/# +//# +/+/+/+/+/+/+/#",
		"$///////":        "$/////// $/#",
		long(64):          long(64) + " + # +/#",
		long(62):          long(62) + "/# + # +/#",
		long(62) + "/x":   long(62) + "/+ " + long(62) + "/# +/+ # +/# +/+/#",
		"x/" + long(62):   "+/" + long(62) + " +/+ # +/# +/+/#",
		"x/" + long(60):   "+/+ # +/# +/+/# +/" + long(60) + "/#",
	} {
		var numbers []int
		for _, f := range strings.Fields(want) {
			numbers = append(numbers, slices.Index(list, f))
		}
		slices.Sort(numbers)
		holds(t, "Match "+short(s), answers(tree.Match(s)), numbers, api.OK)
	}
}

// 10.2: a number that several of the filters that match stand for is told once, and numbers rise, whichever filter has them.
func TestToldOnce(t *testing.T) {
	tree := made(t, pair{"a/b", 5}, pair{"a/+", 5}, pair{"+/b", 5}, pair{"a/#", 5}, pair{"#", 5}, pair{"c", 5})
	holds(t, "Match a/b", answers(tree.Match("a/b")), []int{5}, api.OK)
	put(t, tree, pair{"#", 255}, pair{"#", 0}, pair{"a/b", 9}, pair{"a/b", 1}, pair{"+/b", 9}, pair{"+/+", 0}, pair{"a/#", 7}, pair{"b/#", 6}, pair{"a", 8})
	holds(t, "Match a/b, with more", answers(tree.Match("a/b")), []int{0, 1, 5, 7, 9, 255}, api.OK)
	holds(t, "Match a", answers(tree.Match("a")), []int{0, 5, 7, 8, 255}, api.OK)
	holds(t, "Match b", answers(tree.Match("b")), []int{0, 5, 6, 255}, api.OK)
	holds(t, "Match $a", answers(tree.Match("$a")), []int{}, api.OK)
	take(t, tree, pair{"a/b", 5}, pair{"a/#", 5}, pair{"#", 5}, pair{"+/b", 5})
	holds(t, "Match a/b, as long as one has it", answers(tree.Match("a/b")), []int{0, 1, 5, 7, 9, 255}, api.OK)
	take(t, tree, pair{"a/+", 5})
	holds(t, "Match a/b, as none has it", answers(tree.Match("a/b")), []int{0, 1, 7, 9, 255}, api.OK)
}

// 10.2, 10.3: all ways at once: each filter of + and of a name's own levels matches it, each other one does not.
func TestAllWays(t *testing.T) {
	for _, s := range []string{"a/b/c/d/e/f/g/h", "///////", "a/a/a/a/a/a/a/a", "a/b/$/d//f/g/$h", "a/b", "a"} {
		levels := strings.Split(s, "/")
		var list []string
		for which := range 1 << len(levels) {
			way := slices.Clone(levels)
			for i := range way {
				if which>>i&1 == 1 {
					way[i] = "+"
				}
			}
			list = append(list, strings.Join(way, "/"))
		}
		tree := made(t, numbered(list...)...)
		holds(t, "Match "+s, answers(tree.Match(s)), upTo(len(list)), api.OK)
		holds(t, "Nodes of "+s, answers(tree.Nodes()), 2*len(list)-1)
		for i := range levels {
			other := slices.Clone(levels)
			other[i] = "x"
			var numbers []int
			for n := range list {
				if n>>i&1 == 1 {
					numbers = append(numbers, n)
				}
			}
			holds(t, fmt.Sprint("Match ", other), answers(tree.Match(strings.Join(other, "/"))), numbers, api.OK)
		}
		if len(levels) < api.MaxLevels {
			holds(t, "Match "+s+"/", answers(tree.Match(s+"/")), []int{}, api.OK)
		}
	}
}

// oneByOne is what matching filter by filter comes to, for a tree of these pairs.
func oneByOne(t *testing.T, pairs []pair, s string) []int {
	t.Helper()
	var list []int
	for _, p := range pairs {
		match, e := filter.Match(p.filter, s)
		if e != api.OK {
			t.Fatalf("filter.Match(%s, %s): %d", short(p.filter), short(s), int(e))
		}
		if match && !slices.Contains(list, p.n) {
			list = append(list, p.n)
		}
	}
	slices.Sort(list)
	return list
}

// holdMatch holds a tree's matches of these names against matching filter by filter.
func holdMatch(t *testing.T, tree *trie.Tree, pairs []pair, names []string) {
	t.Helper()
	for _, s := range names {
		got, e := tree.Match(s)
		if want := oneByOne(t, pairs, s); !slices.Equal(got, want) || e != api.OK {
			t.Fatalf("Match %s: %v, %d, want %v", short(s), got, int(e), want)
		}
	}
}

// texts are all texts of up to so many of these pieces, but for the one of none.
func texts(pieces []string, most int) []string {
	list := []string{""}
	for from := 0; most > 0; most-- {
		to := len(list)
		for _, s := range list[from:to] {
			for _, piece := range pieces {
				list = append(list, s+piece)
			}
		}
		from = to
	}
	return list[1:]
}

// 10.3: filters and names of all sorts.
func TestFilterByFilter(t *testing.T) {
	pairs := numbered(filters()...)
	holdMatch(t, made(t, pairs...), pairs, names())
	for i := range pairs {
		pairs[i].n %= 5
	}
	holdMatch(t, made(t, pairs...), pairs, names())
	for _, p := range pairs {
		holdMatch(t, made(t, p), []pair{p}, names())
	}
}

// 10.3: all filters of up to five bytes from six, as many in a tree as it takes, each of these trees against all names of up to five bytes from four.
func TestAllShortFilters(t *testing.T) {
	list := slices.DeleteFunc(texts([]string{"a", "b", "/", "+", "#", "$"}, 5), func(s string) bool { return filter.Check(s) != api.OK })
	asked := slices.DeleteFunc(texts([]string{"a", "b", "/", "$"}, 5), func(s string) bool { return name.Check(s) != api.OK })
	if len(list) < 2*api.MaxItems || len(asked) < 1000 {
		t.Fatalf("just %d filters and %d names", len(list), len(asked))
	}
	for from := 0; from < len(list); from += api.MaxItems {
		pairs := numbered(list[from:min(from+api.MaxItems, len(list))]...)
		holdMatch(t, made(t, pairs...), pairs, asked)
	}
}

// 10.3: all pairs of short filters, with numbers of their own and with the same number.
func TestAllPairsOfFilters(t *testing.T) {
	list := slices.DeleteFunc(texts([]string{"a", "/", "+", "#", "$"}, 3), func(s string) bool { return filter.Check(s) != api.OK })
	asked := slices.DeleteFunc(texts([]string{"a", "/", "$"}, 4), func(s string) bool { return name.Check(s) != api.OK })
	for i, one := range list {
		for _, two := range list[i+1:] {
			pairs := []pair{{one, 4}, {two, 3}}
			holdMatch(t, made(t, pairs...), pairs, asked)
			pairs[1].n = 4
			holdMatch(t, made(t, pairs...), pairs, asked)
		}
	}
}
