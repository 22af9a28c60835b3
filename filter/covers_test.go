package filter_test

import (
	"slices"
	"strings"
	"testing"

	"postrider/api"
	"postrider/filter"
)

// covered is what Covers answers of two filters.
func covered(t *testing.T, a, b string) bool {
	t.Helper()
	covers, e := filter.Covers(a, b)
	if e != api.OK {
		t.Fatalf("%s: %d", called("Covers", a, b), int(e))
	}
	return covers
}

// 9.2: what filters cover, and what they do not.
func TestCovers(t *testing.T) {
	for a, others := range map[string]struct{ yes, no []string }{
		"a":      {[]string{"a"}, []string{"b", "+", "#", "a/", "a/#", "a/+", "$a", "aa", "+/#", "/"}},
		"a/b":    {[]string{"a/b"}, []string{"a", "a/+", "a/#", "+/b", "+/+", "#", "a/b/#", "a/b/c", "a/b/+", "a/c", "+/#"}},
		"a/b/c":  {[]string{"a/b/c"}, []string{"a/b/+", "a/b/#", "a/+/c", "a/b", "a/#"}},
		"$a":     {[]string{"$a"}, []string{"a", "+", "#", "$a/#", "$a/+", "$", "$b"}},
		"+":      {[]string{"+", "a", "b", "!", "a$", long(api.MaxName)}, []string{"#", "$", "$a", "a/b", "a/#", "+/#", "+/+", "/", "a/", "/a", "+/", "$/#"}},
		"#":      {[]string{"#", "+", "a", "a/b", "a/#", "a/+", "+/#", "+/+", "+/a/#", "/", "/#", "/+", "//", "+/$a", "/$", "a/$/#", "a/b/c/d/e/f/g/h", "+/+/+/+/+/+/+/#"}, []string{"$", "$a", "$/", "$a/b", "$a/#", "$/#", "$a/+", "$/+/#", "$a/+/b"}},
		"a/+":    {[]string{"a/+", "a/b", "a/", "a/a", "a/$", "a/$b"}, []string{"a/#", "a", "+/+", "+/b", "#", "+", "a/+/#", "a/b/#", "a/b/c", "a/+/c", "b/+", "$a/b", "a//", "/+"}},
		"a/#":    {[]string{"a/#", "a", "a/+", "a/b", "a/", "a//", "a/+/#", "a/+/c", "a/b/#", "a/$/#", "a/b/c/d/e/f/g/#", "a/+/+/+"}, []string{"#", "+", "+/#", "b", "b/#", "$a", "$a/#", "aa/#", "/#", "+/b", "+/+", "/a"}},
		"+/b":    {[]string{"+/b", "a/b", "/b", "b/b"}, []string{"+/+", "a/+", "a/#", "#", "+/#", "+", "$/b", "$a/b", "+/c", "+/b/#", "+/b/c"}},
		"+/+":    {[]string{"+/+", "+/b", "a/+", "a/b", "/", "/+", "+/", "a/", "/$", "+/$a"}, []string{"+/#", "#", "+", "a", "a/#", "+/+/#", "+/+/+", "a/b/c", "$/+", "$a/+", "$/", "//", "/#"}},
		"+/#":    {[]string{"+/#", "+", "a", "a/#", "+/+", "+/a/#", "a/b/c", "+/+/#", "/#", "/", "+/$/#"}, []string{"#", "$", "$a", "$a/#", "$/+", "$/#"}},
		"a/+/c":  {[]string{"a/+/c", "a/b/c", "a//c", "a/$/c"}, []string{"a/+/+", "a/b/+", "a/#", "a/+/#", "a/b/#", "a/+", "a/+/d", "+/+/c", "a/b/c/d", "a/+/c/#"}},
		"a/+/#":  {[]string{"a/+/#", "a/+", "a/b", "a/", "a/b/#", "a/+/c", "a/+/+", "a/b/c/d", "a//#"}, []string{"a", "a/#", "#", "+/+/#", "+/+", "b/+/#", "$a/+"}},
		"+/b/#":  {[]string{"+/b/#", "+/b", "a/b", "a/b/#", "+/b/+", "/b/c"}, []string{"+/#", "+/+", "#", "a/#", "a/+/#", "+/c", "$a/b", "$a/b/#"}},
		"$a/#":   {[]string{"$a/#", "$a", "$a/+", "$a/b", "$a/+/#", "$a/$b", "$a/"}, []string{"#", "+", "+/#", "a/#", "$/#", "$b/#", "a", "$aa/#"}},
		"$a/+":   {[]string{"$a/+", "$a/b", "$a/", "$a/$b"}, []string{"$a", "$a/#", "+/+", "+/b", "$b/+", "$/+", "$a/+/b"}},
		"$/+/#":  {[]string{"$/+/#", "$/+", "$/a", "$/a/#", "$/", "$//"}, []string{"$", "$/#", "#", "+/+/#", "$a/+/#", "/+/#"}},
		"/+":     {[]string{"/+", "/", "/a", "/$", "/$a"}, []string{"/#", "+/+", "+", "/+/#", "//", "a/+", "$/+", "+/"}},
		"/#":     {[]string{"/#", "/", "//", "/+", "/a", "/+/#", "/$a/#", "//#"}, []string{"#", "+/#", "+", "a/#", "$/#", "a", "+/"}},
		"/+/#":   {[]string{"/+/#", "/+", "/a", "/", "/a/#", "//#"}, []string{"/#", "#", "+/#", "+/+/#"}},
		"//":     {[]string{"//"}, []string{"/+/", "+//", "//+", "//#", "/", "///"}},
		"a/b/#":  {[]string{"a/b/#", "a/b", "a/b/+", "a/b/", "a/b/c/#"}, []string{"a/#", "a/+/#", "+/b/#", "a", "a/+", "a/bb/#", "a/c/#"}},
		"+//+/#": {[]string{"+//+/#", "+//+", "a//b", "+//", "///#", "//a/b"}, []string{"+//#", "+/+/+/#", "+/", "$//+", "+/a/b"}},

		"+/+/+/+/+/+/+/+": {[]string{"+/+/+/+/+/+/+/+", "a/b/c/d/e/f/g/h", "a/+/c/+/e/+/g/+", "///////"}, []string{"+/+/+/+/+/+/+/#", "#", "+/+/+/+/+/+/+", "$/+/+/+/+/+/+/+"}},
		"+/+/+/+/+/+/+/#": {[]string{"+/+/+/+/+/+/+/#", "+/+/+/+/+/+/+/+", "+/+/+/+/+/+/+", "a/b/c/d/e/f/g", "//////"}, []string{"#", "+/+/+/+/+/+", "+/+/+/+/+/+/#", "$///////"}},
		"a/b/c/d/e/f/g/#": {[]string{"a/b/c/d/e/f/g/#", "a/b/c/d/e/f/g/+", "a/b/c/d/e/f/g", "a/b/c/d/e/f/g/h"}, []string{"a/b/c/d/e/f/#", "a/b/c/d/e/f/+/#", "a/b/c/d/e/f/h"}},
		long(62) + "/#":   {[]string{long(62) + "/#", long(62) + "/+", long(62), long(62) + "/y", long(62) + "/"}, []string{"#", "+/#", long(61) + "/#", long(61) + "y/#", long(63)}},
	} {
		for _, b := range others.yes {
			if !covered(t, a, b) {
				t.Errorf("%s: false", called("Covers", a, b))
			}
		}
		for _, b := range others.no {
			if covered(t, a, b) {
				t.Errorf("%s: true", called("Covers", a, b))
			}
		}
	}
}

// 9.6: a filter covers itself, hidden and wild ones too.
func TestCoversItself(t *testing.T) {
	for _, s := range filters() {
		if !covered(t, s, s) {
			t.Errorf("%s: false", called("Covers", s, s))
		}
	}
}

// 9.2: of a name as the other one a filter covers what it matches.
func TestCoversNames(t *testing.T) {
	for _, s := range filters() {
		for _, name := range names() {
			if got, want := covered(t, s, name), matches(t, s, name); got != want {
				t.Errorf("%s: %v, and it matches %v", called("Covers", s, name), got, want)
			}
		}
	}
}

// 9.5: what a filter that is covered matches its cover matches, too; a cover's cover covers.
func TestCoverMatches(t *testing.T) {
	list := filters()
	for _, a := range list {
		for _, b := range list {
			if !covered(t, a, b) {
				continue
			}
			for _, name := range names() {
				if matches(t, b, name) && !matches(t, a, name) {
					t.Errorf("%q covers %q, which matches %q, and does not match it", a, b, name)
				}
			}
			for _, c := range list {
				if covered(t, b, c) && !covered(t, a, c) {
					t.Errorf("%q covers %q covers %q, and does not cover it", a, b, c)
				}
			}
		}
	}
}

// 9.2, P1: each of the two is to be a filter, whatever the other one is.
func TestCoversErrors(t *testing.T) {
	some := neither()
	for _, none := range some {
		for _, other := range append(filters(), some[:20]...) {
			covers, e := filter.Covers(none, other)
			holds(t, called("Covers", none, other), covers, e, false, api.ErrFilter)
			covers, e = filter.Covers(other, none)
			holds(t, called("Covers", other, none), covers, e, false, api.ErrFilter)
		}
	}
}

// 9.2: at each place of a filter a + covers any level but a #, and a # all that is left; neither covers a first level that begins with $.
func TestCoversAtEachPlace(t *testing.T) {
	for n := 1; n <= api.MaxLevels; n++ {
		for place := range n {
			for _, level := range []string{"a", "", "$a", "+", "#"} {
				if level == "#" && place < n-1 || level == "" && n == 1 {
					continue
				}
				levels := slices.Repeat([]string{"x"}, n)
				levels[place] = level
				b := strings.Join(levels, "/")
				hidden := place == 0 && level == "$a"
				rest := strings.Join(append(slices.Clone(levels[:place]), "#"), "/")
				levels[place] = "+"
				one := strings.Join(levels, "/")
				levels[place] = "y"
				other := strings.Join(levels, "/")
				for a, want := range map[string]bool{one: level != "#" && !hidden, rest: !hidden, other: false} {
					if covered(t, a, b) != want {
						t.Errorf("%s: %v", called("Covers", a, b), !want)
					}
				}
			}
		}
	}
}
