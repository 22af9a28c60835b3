package filter_test

import (
	"slices"
	"strings"
	"testing"

	"postrider/api"
	"postrider/filter"
)

// matches is what Match answers of a filter and a name.
func matches(t *testing.T, s, name string) bool {
	t.Helper()
	match, e := filter.Match(s, name)
	if e != api.OK {
		t.Fatalf("%s: %d", called("Match", s, name), int(e))
	}
	return match
}

// noNames are texts that are no names, of all sorts: what is no filter, and filters with wild levels.
func noNames() []string {
	list := neither()
	for s := range wilds() {
		list = append(list, s)
	}
	return list
}

// 9.1: what filters match, and what they do not.
func TestMatch(t *testing.T) {
	for s, names := range map[string]struct{ yes, no []string }{
		"a":       {[]string{"a"}, []string{"b", "A", "aa", "a/", "/a", "a/b", "a/a", "$a", "/"}},
		"a/b":     {[]string{"a/b"}, []string{"a", "b", "a/", "/b", "a/b/", "a/b/c", "ab", "b/a", "a/c", "a/bb", "aa/b", "a//b"}},
		"a/":      {[]string{"a/"}, []string{"a", "/a", "a//", "a/b", "/", "/a/"}},
		"/":       {[]string{"/"}, []string{"a", "//", "/a", "a/", "a/b"}},
		"a//b":    {[]string{"a//b"}, []string{"a/b", "a/b/", "/a/b", "a///b", "a/c/b"}},
		"+":       {[]string{"a", "b", "ab", "!", "~", "a$", good[:api.MaxName]}, []string{"/", "a/", "/a", "a/b", "$", "$a", "$/"}},
		"+/b":     {[]string{"a/b", "b/b", "/b", "aa/b"}, []string{"b", "a", "a/c", "a/b/", "a/b/c", "a/a/b", "$a/b", "$/b", "//b"}},
		"a/+":     {[]string{"a/b", "a/", "a/a", "a/$", "a/$b", "a/bb"}, []string{"a", "b/a", "a//", "a/b/c", "a/b/", "/a", "/a/b", "aa/b", "$a/b"}},
		"a/+/c":   {[]string{"a/b/c", "a//c", "a/c/c", "a/$/c"}, []string{"a/c", "a/b/d", "b/b/c", "a/b/b/c", "a/b/c/", "a/b/c/d", "a///c", "a/b"}},
		"+/+":     {[]string{"/", "a/", "/a", "a/b", "/$", "a/$"}, []string{"a", "//", "a/b/c", "$/", "$a/b", "$/$"}},
		"+/b/+":   {[]string{"a/b/c", "/b/", "b/b/b", "a/b/", "a/b/$c"}, []string{"a/b", "b/c", "b", "a/c/b", "a/b/c/d", "a//c", "$/b/c"}},
		"/+":      {[]string{"/", "/a", "/$", "/$a"}, []string{"a", "a/", "a/b", "//", "/a/", "//a", "$/a"}},
		"+/":      {[]string{"/", "a/", "b/"}, []string{"a", "/a", "a/b", "//", "a//", "$/", "$a/"}},
		"$/+":     {[]string{"$/", "$/a", "$/$"}, []string{"$", "$a", "$a/b", "a/b", "$/a/b", "/$"}},
		"$a/+/b":  {[]string{"$a/x/b", "$a//b"}, []string{"a/x/b", "$a/b", "$/x/b", "$a/x/b/", "$a/x/c"}},
		"+/$a":    {[]string{"a/$a", "/$a", "b/$a"}, []string{"$/$a", "$a/$a", "a/a", "a/$", "$a"}},
		"#":       {[]string{"a", "b", "/", "//", "a/", "/a", "a/b", "a//b", "a$", "/$", "a/$", "/$a", "a/b/c/d/e/f/g/h", "///////"}, []string{"$", "$a", "$/", "$a/b", "$$", "$/a/b/c/d/e/f/g"}},
		"a/#":     {[]string{"a", "a/", "a/b", "a//", "a//b", "a/b/c", "a/$", "a/$b", "a/b/c/d/e/f/g/h"}, []string{"b", "aa", "ab", "ab/c", "aa/b", "b/a", "/a", "/", "$a", "$a/b", "A"}},
		"a/b/#":   {[]string{"a/b", "a/b/", "a/b/c", "a/b//", "a/b/c/d"}, []string{"a", "a/", "b", "a/c", "a/bb", "a/bb/c", "a//b", "b/b", "a/c/b"}},
		"/#":      {[]string{"/", "//", "/a", "/a/b", "/$", "///////"}, []string{"a", "a/", "a//", "$/", "$", "b/c"}},
		"a//#":    {[]string{"a/", "a//", "a//b", "a//b/c"}, []string{"a", "a/b", "a/b/", "/a", "//", "b//"}},
		"$/#":     {[]string{"$", "$/", "$/a", "$/$", "$/a/b", "$//"}, []string{"$a", "$$", "$a/b", "a", "/$", "a/$"}},
		"$a/#":    {[]string{"$a", "$a/", "$a/b", "$a/$b/c"}, []string{"$", "$aa", "$b", "a", "a/b", "a/$a"}},
		"+/#":     {[]string{"a", "b", "/", "a/", "/a", "a/b", "a/b/c", "/$", "a/b/c/d/e/f/g/h"}, []string{"$", "$a", "$/", "$a/b", "$a/b/c"}},
		"+/+/#":   {[]string{"/", "a/", "a/b", "//", "a/b/c", "/$", "a/$"}, []string{"a", "b", "$", "$/", "$a/b", "$a/b/c"}},
		"a/+/#":   {[]string{"a/", "a/b", "a//", "a/b/c", "a/$", "a/b/c/d"}, []string{"a", "b", "b/a", "/a", "aa/b", "$a/b"}},
		"+/b/#":   {[]string{"a/b", "/b", "a/b/c", "a/b/", "b/b/b/b"}, []string{"b", "a", "a/c", "a/c/b", "$a/b", "$/b/c", "a/bb"}},
		"/+/#":    {[]string{"/", "/a", "//", "/a/b", "/$"}, []string{"a", "a/", "a/b", "$/a"}},
		"///////": {[]string{"///////"}, []string{"//////", "/", "///////a", "a///////"}},

		"+/+/+/+/+/+/+/+": {[]string{"a/b/c/d/e/f/g/h", "///////", "a///////", "/a/b/c/d/e/f/$"}, []string{"a/b/c/d/e/f/g", "//////", "a", "$///////", "$/b/c/d/e/f/g/h"}},
		"a/b/c/d/e/f/g/+": {[]string{"a/b/c/d/e/f/g/h", "a/b/c/d/e/f/g/", "a/b/c/d/e/f/g/$"}, []string{"a/b/c/d/e/f/g", "a/b/c/d/e/f/h/g", "b/b/c/d/e/f/g/h"}},
		"a/b/c/d/e/f/g/#": {[]string{"a/b/c/d/e/f/g", "a/b/c/d/e/f/g/", "a/b/c/d/e/f/g/h"}, []string{"a/b/c/d/e/f", "a/b/c/d/e/f/", "a/b/c/d/e/f/h", "a/b/c/d/e/g/g/h"}},
		"+/+/+/+/+/+/+/#": {[]string{"a/b/c/d/e/f/g", "//////", "a/b/c/d/e/f/g/h", "///////"}, []string{"a/b/c/d/e/f", "/////", "$/b/c/d/e/f/g", "$///////"}},
		long(62) + "/+":   {[]string{long(62) + "/y", long(62) + "/"}, []string{long(62), long(61) + "/y", long(61) + "y/y", long(61) + "//"}},
		long(62) + "/#":   {[]string{long(62), long(62) + "/y", long(62) + "/", long(62) + "//"}, []string{long(61), long(63), long(64), long(61) + "/y"}},
	} {
		for _, name := range names.yes {
			if !matches(t, s, name) {
				t.Errorf("%s: false", called("Match", s, name))
			}
		}
		for _, name := range names.no {
			if matches(t, s, name) {
				t.Errorf("%s: true", called("Match", s, name))
			}
		}
	}
}

// 9.3: a name matches just itself.
func TestNamesMatchThemselves(t *testing.T) {
	for _, s := range names() {
		for _, name := range names() {
			if matches(t, s, name) != (s == name) {
				t.Errorf("%s: %v", called("Match", s, name), s != name)
			}
		}
	}
}

// 9.4: # matches each name that is not hidden, and no other one.
func TestAllMatched(t *testing.T) {
	for _, name := range names() {
		if matches(t, "#", name) != (name[0] != '$') {
			t.Errorf("%s: %v", called("Match", "#", name), name[0] == '$')
		}
	}
}

// 9.1, P1: the filter is looked at ahead of the name; a filter is none for a name, if it is wild.
func TestMatchErrors(t *testing.T) {
	for _, name := range noNames() {
		for _, s := range filters() {
			match, e := filter.Match(s, name)
			holds(t, called("Match", s, name), match, e, false, api.ErrName)
		}
		for _, s := range neither() {
			match, e := filter.Match(s, name)
			holds(t, called("Match", s, name), match, e, false, api.ErrFilter)
		}
	}
}

// 9.2: the place of the first filter that matches, if one does.
func TestAny(t *testing.T) {
	for _, c := range []struct {
		name    string
		filters []string
		want    int
	}{
		{"a", nil, -1}, {"a", []string{}, -1}, {"$", nil, -1}, {long(api.MaxName), nil, -1}, {"///////", nil, -1},
		{"a", []string{"a"}, 0}, {"a", []string{"b"}, -1}, {"a", []string{"+"}, 0}, {"a", []string{"#"}, 0}, {"a", []string{"a/#"}, 0}, {"a", []string{"a/+"}, -1},
		{"a", []string{"b", "a"}, 1}, {"a", []string{"a", "b"}, 0}, {"a", []string{"a", "a"}, 0}, {"a", []string{"+", "a"}, 0}, {"a", []string{"#", "+", "a"}, 0}, {"a", []string{"b", "b", "b"}, -1},
		{"a/b", []string{"a", "b", "+", "a/b/+", "b/#", "a/#", "a/b"}, 5}, {"a/b", []string{"a", "b", "+", "a/b/+", "b/#"}, -1},
		{"$a", []string{"#", "+", "+/#", "$a", "$a/#"}, 3}, {"$a", []string{"#", "+", "+/#"}, -1}, {"$a/b", []string{"#", "+/b", "+/+", "+/#", "$a/+"}, 4},
		{"/", []string{"+", "a/+", "+/a", "/+"}, 3}, {"a", []string{"b", "c", "d", "e", "f", "g", "h", "i", "a"}, 8},
	} {
		place, e := filter.Any(c.name, c.filters...)
		holds(t, called("Any", c.name, c.filters), place, e, c.want, api.OK)
	}
}

// 9.2: the first of many, wherever it is, and none of many.
func TestAnyOfMany(t *testing.T) {
	most := 1 << 14
	list := slices.Repeat([]string{"b"}, most)
	place, e := filter.Any("a", list...)
	holds(t, called("Any", "a", list), place, e, -1, api.OK)
	for _, at := range []int{0, 1, api.MaxItems - 1, api.MaxItems, api.MaxItems + 1, most - 1} {
		list[at] = "a/#"
		place, e := filter.Any("a", list...)
		holds(t, called("Any", "a", list), place, e, at, api.OK)
		place, e = filter.Any("$a", list...)
		holds(t, called("Any", "$a", list), place, e, -1, api.OK)
		list[at] = "b"
	}
}

// 9.2: Any answers by Match, one by one.
func TestAnyIsMatchOneByOne(t *testing.T) {
	list := filters()
	for _, name := range names() {
		for at := range list {
			want := slices.IndexFunc(list[at:], func(s string) bool { return matches(t, s, name) })
			place, e := filter.Any(name, list[at:]...)
			holds(t, called("Any", name, at), place, e, want, api.OK)
		}
	}
}

// 9.2, P1: a name that is none comes ahead of all filters, be there none, or what is none.
func TestAnyNoName(t *testing.T) {
	for _, name := range noNames() {
		for _, list := range [][]string{nil, {"#"}, {name}, {"b", "c"}, {""}, {"a+", "#"}, {"#", "a+"}, {name, name}} {
			place, e := filter.Any(name, list...)
			holds(t, called("Any", name, list), place, e, 0, api.ErrName)
		}
	}
}

// 9.2, P1: a filter that is none is told, if it is ahead of the first that matches, or none does; behind that one it is not.
func TestAnyNoFilter(t *testing.T) {
	for _, none := range neither() {
		for _, c := range []struct {
			list []string
			want int
			err  api.Errno
		}{
			{[]string{none}, 0, api.ErrFilter}, {[]string{none, "a"}, 0, api.ErrFilter}, {[]string{"b", none}, 0, api.ErrFilter}, {[]string{"b", none, "a"}, 0, api.ErrFilter},
			{[]string{none, none}, 0, api.ErrFilter}, {[]string{"b", "c", "d", none, "e"}, 0, api.ErrFilter}, {[]string{"b", none, "c", none, "a"}, 0, api.ErrFilter},
			{[]string{"a", none}, 0, api.OK}, {[]string{"b", "a", none}, 1, api.OK}, {[]string{"b", "+", "c", none}, 1, api.OK}, {[]string{"b", "c", "#", none, "a", none}, 2, api.OK},
		} {
			place, e := filter.Any("a", c.list...)
			holds(t, called("Any", "a", c.list), place, e, c.want, c.err)
		}
	}
}

// 9.2, P2: the filters handed in stay as they are, those behind them too, and are not kept.
func TestHandedIn(t *testing.T) {
	room := []string{"b", "+/b", "a+", "", "#"}
	for _, most := range []int{1, 2, 3, 4, 5} {
		was := slices.Clone(room)
		filter.Any("a", room[:most]...)
		filter.Any("a/b", room[:most]...)
		filter.Any("+", room[:most]...)
		if !slices.Equal(room, was) {
			t.Errorf("Any changed %q to %q", was, room)
		}
	}
	place, e := filter.Any("a/b", room[:2]...)
	holds(t, "Any", place, e, 1, api.OK)
	room[0], room[1] = "a/#", "c"
	place, e = filter.Any("a/b", room[:2]...)
	holds(t, "Any", place, e, 0, api.OK)
	room[0] = "c"
	place, e = filter.Any("a/b", room[:2]...)
	holds(t, "Any", place, e, -1, api.OK)
}

// 9.1: a + at each place of a name stands for that level, whatever it is, but for a hidden name's first one; so does a # for it and those behind it, or ahead of it for none.
func TestWildForEachLevel(t *testing.T) {
	for _, name := range names() {
		levels := strings.Split(name, "/")
		for i := range levels {
			want := i > 0 || name[0] != '$'
			one := slices.Clone(levels)
			one[i] = "+"
			rest := strings.Join(append(slices.Clone(levels[:i]), "#"), "/")
			for _, s := range []string{strings.Join(one, "/"), rest} {
				if len(s) <= api.MaxName && matches(t, s, name) != want {
					t.Errorf("%s: %v", called("Match", s, name), !want)
				}
			}
		}
		if s := name + "/#"; len(levels) < api.MaxLevels && len(s) <= api.MaxName && !matches(t, s, name) {
			t.Errorf("%s: false", called("Match", s, name))
		}
		if s := name + "/+"; len(levels) < api.MaxLevels && len(s) <= api.MaxName && matches(t, s, name) {
			t.Errorf("%s: true", called("Match", s, name))
		}
	}
}
