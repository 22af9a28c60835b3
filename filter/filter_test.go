package filter_test

import (
	"fmt"
	"slices"
	"strings"
	"testing"

	"postrider/api"
	"postrider/filter"
)

// good are the bytes that a level may have beside others, written out: 33 to 126 without +, # and the stroke.
const good = "!\"$%&'()*,-." + "0123456789" + ":;<=>?@" + "ABCDEFGHIJKLMNOPQRSTUVWXYZ" + "[\\]^_`" + "abcdefghijklmnopqrstuvwxyz" + "{|}~"

// long is a text of n bytes, in one level.
func long(n int) string { return strings.Repeat("x", n) }

// names are names of all sorts.
func names() []string {
	return []string{
		"a", "b", "!", "~", "ab", "aa", "A", "x", good[:api.MaxName], good[len(good)-api.MaxName:], long(api.MaxName),
		"a/b", "a/b/c", "a/c", "b/a", "aa/b", "a/bb", "a/a/a", "b/c", "a/b/c/d/e/f/g", "a/b/c/d/e/f/g/h", "a/b/c/d/e/f/g/i", long(31) + "/" + long(32),
		"/", "//", "///////", "/a", "a/", "/a/", "//a", "a//", "a//b", "a///b", "/" + long(api.MaxName-1), long(api.MaxName-1) + "/",
		"$", "$a", "$$", "$/", "$/a", "$a/b", "$a/$b", "$a/b/c", "$///////", "$" + long(api.MaxName-1),
		"a$", "/$", "/$a", "a/$", "a/$b", "a/$/c", "!$", "a/b/c/d/e/f/g/$",
	}
}

// wilds are filters of all sorts that have wild levels, with their levels.
func wilds() map[string][]string {
	return map[string][]string{
		"+":                        {"+"},
		"+/a":                      {"+", "a"},
		"a/+":                      {"a", "+"},
		"a/+/c":                    {"a", "+", "c"},
		"+/+":                      {"+", "+"},
		"+/b/+":                    {"+", "b", "+"},
		"+/+/c":                    {"+", "+", "c"},
		"a/+/+/d":                  {"a", "+", "+", "d"},
		"+/+/+/+/+/+/+/+":          {"+", "+", "+", "+", "+", "+", "+", "+"},
		"a/b/c/d/e/f/g/+":          {"a", "b", "c", "d", "e", "f", "g", "+"},
		"/+":                       {"", "+"},
		"+/":                       {"+", ""},
		"/+/":                      {"", "+", ""},
		"+//+":                     {"+", "", "+"},
		"$/+":                      {"$", "+"},
		"$a/+/b":                   {"$a", "+", "b"},
		"+/$a":                     {"+", "$a"},
		long(62) + "/+":            {long(62), "+"},
		"+/" + long(62):            {"+", long(62)},
		long(30) + "/+/" + "/////": {long(30), "+", "", "", "", "", "", ""},

		"#":               {"#"},
		"a/#":             {"a", "#"},
		"a/b/#":           {"a", "b", "#"},
		"a/b/c/d/e/f/g/#": {"a", "b", "c", "d", "e", "f", "g", "#"},
		"///////#":        {"", "", "", "", "", "", "", "#"},
		"/#":              {"", "#"},
		"//#":             {"", "", "#"},
		"a//#":            {"a", "", "#"},
		"$/#":             {"$", "#"},
		"$a/b/#":          {"$a", "b", "#"},
		"a/$/#":           {"a", "$", "#"},
		long(62) + "/#":   {long(62), "#"},
		good[:62] + "/#":  {good[:62], "#"},

		"+/#":                  {"+", "#"},
		"a/+/#":                {"a", "+", "#"},
		"+/a/#":                {"+", "a", "#"},
		"+/+/#":                {"+", "+", "#"},
		"/+/#":                 {"", "+", "#"},
		"+//#":                 {"+", "", "#"},
		"$a/+/#":               {"$a", "+", "#"},
		"+/+/+/+/+/+/+/#":      {"+", "+", "+", "+", "+", "+", "+", "#"},
		"+/" + long(60) + "/#": {"+", long(60), "#"},
	}
}

// filters are all of these: names, and filters with wild levels.
func filters() []string {
	list := names()
	for s := range wilds() {
		list = append(list, s)
	}
	slices.Sort(list)
	return list
}

// neither are texts that are no filters, and no names, of all sorts.
func neither() []string {
	return []string{
		"",                                                                                 // no text
		long(api.MaxName + 1), long(api.MaxName + 2), long(2 * api.MaxName), long(1 << 20), // too long
		"/" + long(api.MaxName), long(api.MaxName) + "/", long(32) + "/" + long(32), "$" + long(api.MaxName), long(63) + "/+", long(63) + "/#", "+/" + long(63), "+/" + long(61) + "/#",
		"////////", "a/b/c/d/e/f/g/h/i", "a/b/c/d/e/f/g/h/", "/a/b/c/d/e/f/g/h", "////////a", "a////////", "$////////", // too many levels
		"+/+/+/+/+/+/+/+/+", "+/+/+/+/+/+/+/+/#", "a/b/c/d/e/f/g/h/+", "a/b/c/d/e/f/g/h/#", "////////#", "+////////", strings.Repeat("/", api.MaxName), strings.Repeat("/", 1<<20), strings.Repeat("+/", 1<<19) + "#",
		"a+", "+a", "a+b", "++", "+++", "a/b+", "a/+b/c", "a/b+c/d", "+a/b", "a+/b", "+/++", "$+", "+$", "$+/a", "+!", "~+", "/+a", "a+/", long(63) + "+", "+" + long(63), // a + beside others
		"a#", "#a", "a#b", "##", "###", "a/b#", "a/#b", "a/b#c/d", "#a/b", "a#/b", "+/##", "$#", "#$", "/#a", "a#/", long(63) + "#", "#" + long(63), // a # beside others
		"+#", "#+", "a/+#", "a/#+", "+#/a", "#+/a", "+#+", // both in one level
		"#/", "#/a", "#/+", "#/#", "a/#/", "a/#/b", "a/#/+", "a/#/#", "+/#/a", "/#/", "//#/a", "$/#/a", "#/a/b/c/d/e/f/g", "a/b/c/d/e/f/#/h", "#///////", "#/" + long(62), // a # that is not last
		" ", "a b", " a", "a ", "a/ /b", "a/b ", " /a", "$ ", "\t", "a\n", "a\r", "\x00", "a\x00", "\x00a", "a/\x00", "\x1f", "\x7f", "a\x7f", "a/\x7f/b", // a byte that none has
		"+ ", " +", "# ", " #", "+/ ", " /+", " /#", "a /#", "+\x00", "#\x00", "+/\x7f", "\x1f/#", "+/é", "é/#",
		"é", "aé", "a/é", "€", "𝄞", "\u00a0", "\uff0f", "\uff0b", "\ufffd", "\x80", "a\x80b", "\xff", "a/\xff", "\xc3", "a\xc3/b", "$é",
		long(api.MaxName) + "+", long(api.MaxName) + "/#", "#/" + long(api.MaxName), long(api.MaxName) + "\x00", " ////////", "#////////", // several of these
	}
}

// holds holds one call's answer and error against what they are to be.
func holds[A any](t *testing.T, what string, got A, e api.Errno, want A, err api.Errno) {
	t.Helper()
	if g, w := fmt.Sprintf("%#v, %d", got, int(e)), fmt.Sprintf("%#v, %d", want, int(err)); g != w {
		t.Errorf("%s: %s, want %s", what, g, w)
	}
}

// called is a call's text; of arguments that are long just the beginning.
func called(call string, arguments ...any) string {
	for i, a := range arguments {
		if text, ok := a.(string); ok && len(text) > 100 {
			arguments[i] = fmt.Sprint(text[:100], " .. of ", len(text), " bytes")
		}
		if list, ok := a.([]string); ok && (len(list) > 20 || len(strings.Join(list, "/")) > 400) {
			arguments[i] = fmt.Sprint(len(list), " filters")
		}
	}
	return fmt.Sprintf("%s%q", call, arguments)
}

// isFilter holds that a text is a filter of these levels, and wild or not; it covers itself.
func isFilter(t *testing.T, s string, levels []string, wild bool) {
	t.Helper()
	holds(t, called("Check", s), 0, filter.Check(s), 0, api.OK)
	got, e := filter.Levels(s)
	holds(t, called("Levels", s), got, e, levels, api.OK)
	holds(t, called("Wild", s), filter.Wild(s), 0, wild, 0)
	covers, e := filter.Covers(s, s)
	holds(t, called("Covers", s, s), covers, e, true, api.OK)
}

// isNone holds that each call of a text that is no filter says so, whatever else it is asked, but for a name that is none ahead of it.
func isNone(t *testing.T, s string) {
	t.Helper()
	holds(t, called("Check", s), 0, filter.Check(s), 0, api.ErrFilter)
	levels, e := filter.Levels(s)
	holds(t, called("Levels", s), levels, e, nil, api.ErrFilter)
	holds(t, called("Wild", s), filter.Wild(s), 0, false, 0)
	for _, name := range []string{"a", "$", "/", long(api.MaxName), s, "", "+", "a/#", long(api.MaxName + 1)} {
		match, e := filter.Match(s, name)
		holds(t, called("Match", s, name), match, e, false, api.ErrFilter)
	}
	for _, other := range []string{s, "a", "$", "/", "+", "#", "a/#", "", "a+"} {
		covers, e := filter.Covers(s, other)
		holds(t, called("Covers", s, other), covers, e, false, api.ErrFilter)
		covers, e = filter.Covers(other, s)
		holds(t, called("Covers", other, s), covers, e, false, api.ErrFilter)
	}
	place, e := filter.Any("a", s)
	holds(t, called("Any", "a", s), place, e, 0, api.ErrFilter)
	place, e = filter.Any("a", "b", "a/+", s, "#")
	holds(t, called("Any", "a", "b", "a/+", s, "#"), place, e, 0, api.ErrFilter)
	place, e = filter.Any("a", "b", "#", s)
	holds(t, called("Any", "a", "b", "#", s), place, e, 1, api.OK)
}

func Example() {
	fmt.Println(filter.Match("a/+/c", "a/b/c"))
	fmt.Println(filter.Match("a/#", "a"))
	fmt.Println(filter.Match("#", "$a"))
	// Output:
	// true error 0
	// true error 0
	// false error 0
}

// 9.1, 9.6: filters with wild levels: of one byte and of the most, of one level and of the most, empty levels wherever they are.
func TestWildFilters(t *testing.T) {
	for s, levels := range wilds() {
		isFilter(t, s, levels, true)
	}
}

// 9.1, 9.3, 9.6: a name is a filter, with the same levels, and is not wild.
func TestNamesAreFilters(t *testing.T) {
	for _, s := range names() {
		isFilter(t, s, strings.Split(s, "/"), false)
	}
}

// 9.1, P1: texts that are no filters.
func TestNoFilters(t *testing.T) {
	for _, s := range neither() {
		isNone(t, s)
	}
}

// 9.1: each byte, alone, and at each place of a level, ahead of a stroke and behind one, beside wild levels too.
func TestBytes(t *testing.T) {
	filters := 0
	for x := range 256 {
		b := string([]byte{byte(x)})
		if b == "/" || b == "+" || b == "#" {
			continue
		}
		may := strings.Contains(good, b)
		for _, around := range [][2]string{{"", ""}, {"", "a"}, {"a", ""}, {"a", "a"}, {"", "/a"}, {"a/", ""}, {"/", "/"}, {"$", ""}, {"+/", ""}, {"", "/+"}, {"", "/#"}, {"+/", "/#"}, {"a/b/c/d/e/f/g/", ""}, {long(api.MaxName - 1), ""}, {"", long(api.MaxName - 1)}} {
			s := around[0] + b + around[1]
			if !may {
				isNone(t, s)
				continue
			}
			isFilter(t, s, strings.Split(s, "/"), strings.ContainsAny(s, "+#"))
			filters++
		}
	}
	if want := (94 - 3) * 15; filters != want {
		t.Errorf("%d filters of a byte, want %d", filters, want)
	}
}

// 9.1: a byte beside a + or a # in one level makes none of it, whichever it is.
func TestBesideWild(t *testing.T) {
	for x := range 256 {
		b := string([]byte{byte(x)})
		if b == "/" {
			continue
		}
		for _, wild := range []string{"+", "#"} {
			for _, s := range []string{b + wild, wild + b, "a/" + b + wild, "a/" + wild + b, wild + b + "/a", b + wild + b, wild + b + wild} {
				isNone(t, s)
			}
		}
	}
}

// 9.1: texts of all lengths about the most bytes, in one level and in several, wild ones among them.
func TestLengths(t *testing.T) {
	for n := range 2*api.MaxName + 2 {
		for _, s := range []string{long(n), "/" + long(n), long(n) + "/", "+/" + long(n), long(n) + "/+", long(n) + "/#", "a/+/" + long(n) + "/c/#"} {
			if len(s) < 1 || len(s) > api.MaxName {
				isNone(t, s)
			} else {
				isFilter(t, s, strings.Split(s, "/"), strings.ContainsAny(s, "+#"))
			}
		}
	}
}

// 9.1: so many levels, empty ones and others, all of a sort, or with a # behind them.
func TestLevelsOfAllNumbers(t *testing.T) {
	for n := 1; n <= api.MaxName; n++ {
		for _, level := range []string{"", "a", "ab", "$", "+"} {
			levels := slices.Repeat([]string{level}, n)
			for _, list := range [][]string{levels, append(levels[:n-1:n-1], "#")} {
				s := strings.Join(list, "/")
				if n > api.MaxLevels || s == "" {
					isNone(t, s)
				} else {
					isFilter(t, s, list, strings.ContainsAny(s, "+#"))
				}
			}
		}
	}
}

// 9.1: a + may be at each place, with others or without; a # at the last one only.
func TestWildAtEachPlace(t *testing.T) {
	for n := 1; n <= api.MaxLevels; n++ {
		for place := range n {
			for _, level := range []string{"", "a", "$", "+"} {
				levels := slices.Repeat([]string{level}, n)
				levels[place] = "+"
				isFilter(t, strings.Join(levels, "/"), levels, true)
				levels[place] = "#"
				if s := strings.Join(levels, "/"); place == n-1 {
					isFilter(t, s, levels, true)
				} else {
					isNone(t, s)
				}
			}
		}
	}
}

// 9.1: what Levels hands out is the caller's own: nobody else sees what becomes of it.
func TestHandedOut(t *testing.T) {
	for _, s := range filters() {
		first, _ := filter.Levels(s)
		second, _ := filter.Levels(s)
		for i := range first {
			first[i] = "?"
		}
		_ = append(first[:0], "!")
		holds(t, called("Levels", s)+", asked ahead", second, 0, strings.Split(s, "/"), 0)
		isFilter(t, s, strings.Split(s, "/"), strings.ContainsAny(s, "+#"))
	}
}

// P2: what was refused changes nothing that is asked behind it.
func TestRefusedChangesNothing(t *testing.T) {
	for _, s := range neither() {
		filter.Check(s)
		filter.Levels(s)
		filter.Wild(s)
		filter.Match(s, "a")
		filter.Match("a/#", s)
		filter.Any(s, "#")
		filter.Any("a", "b", s, "#")
		filter.Covers(s, "a")
		filter.Covers("#", s)
		isFilter(t, "a/+/#", []string{"a", "+", "#"}, true)
		match, e := filter.Match("a/#", "a")
		holds(t, "Match", match, e, true, api.OK)
		place, e := filter.Any("a/b", "b", "+/b", "#")
		holds(t, "Any", place, e, 1, api.OK)
	}
}
