package name_test

import (
	"maps"
	"slices"
	"strings"
	"testing"

	"postrider/api"
	"postrider/name"
)

// compared is what Compare answers of two names.
func compared(t *testing.T, a, b string) int {
	t.Helper()
	order, e := name.Compare(a, b)
	if e != api.OK || order < -1 || order > 1 {
		t.Fatalf("Compare(%q, %q): %d, %d", a, b, order, int(e))
	}
	return order
}

// asTold is the order as the words say it: level by level, byte by byte, one that begins the other ahead of it.
func asTold(a, b string) int {
	first, second := cutUp(a), cutUp(b)
	for i := range min(len(first), len(second)) {
		one, other := first[i], second[i]
		for k := range min(len(one), len(other)) {
			if one[k] != other[k] {
				return sign(int(one[k]) - int(other[k]))
			}
		}
		if len(one) != len(other) {
			return sign(len(one) - len(other))
		}
	}
	return sign(len(first) - len(second))
}

func sign(n int) int {
	switch {
	case n < 0:
		return -1
	case n > 0:
		return 1
	}
	return 0
}

// someNames are all names here that are short enough to be held against each other, three by three.
func someNames() []string {
	list := slices.Sorted(maps.Keys(names()))
	for _, s := range []string{"b", "a!", "a.", "a0", "a!/b", "a/!", "a/~", "a//", "//b", "/b", "aa", "aa/", "ab", "b/a", "b/", "A", "a/B", "a/b!", "a/b/", "a/b/!", "$!", "!/", "~/"} {
		if !slices.Contains(list, s) {
			list = append(list, s)
		}
	}
	return list
}

// 8.2: names that are equal, of which one begins the other, by bytes alone or by levels, that differ in a byte, or in a level's length.
func TestCompare(t *testing.T) {
	for _, c := range []struct {
		ahead, behind string
	}{
		{"a", "b"}, {"A", "a"}, {"Z", "a"}, {"9", "A"}, {"!", "~"}, {"!", "$"}, {"$", "a"}, {"a/b", "a/c"}, {"a/b/c", "b"}, {"a/b/c", "b/a/a"}, {"a/x/c", "a/y/b"}, {"x/a", "y/a"}, {"ab", "ac"}, {"aab", "aba"}, // a byte
		{"a", "aa"}, {"a", "ab"}, {"a", "a!"}, {"a!", "a!!"}, {"ab", "abc"}, {"a/b", "a/bb"}, {"x/a/y", "x/aa/a"}, // a level that begins another
		{"a", "a/"}, {"a", "a/b"}, {"a", "a/!"}, {"a/b", "a/b/c"}, {"a/", "a//"}, {"/", "//"}, {"a//", "a//b"}, {"///////", "///////a"}, {"a/b/c/d/e/f/g", "a/b/c/d/e/f/g/h"}, // levels that begin others
		{"a/b", "a!"}, {"a/", "a!"}, {"a/~", "a!"}, {"a/b", "a."}, {"a/b", "a-b"}, {"a/z/z", "aa"}, {"x/a/b", "x/a!"}, {"a/~", "a$"}, {"/", "!"}, {"/~", "!"}, {"//", "/!"}, {"a//~", "a/!"}, // a stroke against a byte below it
		{"a/b", "aa"}, {"a/b", "a0"}, {"a/b", "ab"}, {"/a", "a"}, {"/", "a"}, {"//", "/a"}, {"a//b", "a/a"}, {"a//z", "a/b"}, {"a//", "a/b"}, {"a/", "a/b"}, {"/b", "a"}, {"//z", "/a/a"}, // a stroke against a byte above it
		{long(api.MaxName - 1), long(api.MaxName)}, {long(api.MaxName-1) + "a", long(api.MaxName-1) + "b"}, {"a" + long(api.MaxName-1), "b" + long(api.MaxName-1)}, {"a/b/c/d/e/f/g/h", "a/b/c/d/e/f/g/i"},
	} {
		for _, pair := range []struct {
			a, b string
			want int
		}{{c.ahead, c.behind, -1}, {c.behind, c.ahead, 1}, {c.ahead, c.ahead, 0}, {c.behind, c.behind, 0}} {
			if got := compared(t, pair.a, pair.b); got != pair.want {
				t.Errorf("Compare(%q, %q): %d, want %d", pair.a, pair.b, got, pair.want)
			}
		}
	}
}

// 8.2, P1: what is no name is ahead of none, equal to none, not to itself, and behind none; on either side.
func TestCompareNoNames(t *testing.T) {
	for _, s := range noNames() {
		for other := range names() {
			first, e := name.Compare(s, other)
			holds(t, called("Compare", s, other), first, e, 0, api.ErrName)
			second, e := name.Compare(other, s)
			holds(t, called("Compare", other, s), second, e, 0, api.ErrName)
		}
		for _, other := range noNames()[:20] {
			both, e := name.Compare(s, other)
			holds(t, called("Compare", s, other), both, e, 0, api.ErrName)
		}
	}
}

// 8.2: each two bytes, as levels of their own, and further on in a level.
func TestCompareBytes(t *testing.T) {
	for i := range good {
		for k := range good {
			for _, around := range [][2]string{{"", ""}, {"a", "/b"}, {"/", "z"}} {
				a, b := around[0]+good[i:i+1]+around[1], around[0]+good[k:k+1]+around[1]
				if got := compared(t, a, b); got != sign(i-k) {
					t.Errorf("Compare(%q, %q): %d, want %d", a, b, got, sign(i-k))
				}
			}
		}
	}
}

// 8.4: of each two names one is ahead of the other, but just the same name; the order goes on over three.
func TestOrder(t *testing.T) {
	list := someNames()
	for _, a := range list {
		for _, b := range list {
			ab := compared(t, a, b)
			if ab != -compared(t, b, a) || (ab == 0) != (a == b) || ab != asTold(a, b) {
				t.Errorf("Compare(%q, %q): %d, the other way round %d", a, b, ab, compared(t, b, a))
			}
			for _, c := range list {
				if ab < 0 && compared(t, b, c) < 0 && compared(t, a, c) >= 0 {
					t.Errorf("%q ahead of %q ahead of %q, and not of it", a, b, c)
				}
			}
		}
	}
}

// 8.4, 8.5: sorted by Compare, a name comes ahead of those that it is above, and they lie together behind it.
func TestSorted(t *testing.T) {
	list := someNames()
	slices.SortFunc(list, func(a, b string) int { return compared(t, a, b) })
	for i, s := range list {
		inside := true
		for _, next := range list[i+1:] {
			below := strings.HasPrefix(next, s+"/")
			if below && !inside {
				t.Errorf("%q lies apart from %q, which is above it", next, s)
			}
			inside = below
		}
		for _, before := range list[:i] {
			if strings.HasPrefix(before, s+"/") {
				t.Errorf("%q lies ahead of %q, which is above it", before, s)
			}
		}
	}
}
