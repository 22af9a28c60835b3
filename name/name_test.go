package name_test

import (
	"fmt"
	"math"
	"slices"
	"strings"
	"testing"

	"postrider/api"
	"postrider/name"
)

// good are the bytes that a level may have, written out: 33 to 126 without +, # and the stroke.
const good = "!\"$%&'()*,-." + "0123456789" + ":;<=>?@" + "ABCDEFGHIJKLMNOPQRSTUVWXYZ" + "[\\]^_`" + "abcdefghijklmnopqrstuvwxyz" + "{|}~"

// The depths that no name has.
var noDepths = []int{math.MinInt, math.MinInt + 1, -api.MaxLevels - 1, -api.MaxLevels, -2, -1, 0, api.MaxLevels + 1, api.MaxName, 1 << 32, 1<<32 + 1, math.MaxInt - 1, math.MaxInt}

// long is a text of n bytes, in one level.
func long(n int) string { return strings.Repeat("x", n) }

// names are names of all sorts, with their levels.
func names() map[string][]string {
	return map[string][]string{
		"a":                          {"a"},
		"!":                          {"!"},
		"~":                          {"~"},
		"$":                          {"$"},
		"$a":                         {"$a"},
		"a$":                         {"a$"},
		"abc":                        {"abc"},
		good[:api.MaxName]:           {good[:api.MaxName]},
		good[len(good)-api.MaxName:]: {good[len(good)-api.MaxName:]},
		long(api.MaxName):            {long(api.MaxName)},
		long(api.MaxName - 1):        {long(api.MaxName - 1)},

		"a/b":    {"a", "b"},
		"a/b/c":  {"a", "b", "c"},
		"ab/cde": {"ab", "cde"},
		"a/a/a":  {"a", "a", "a"},
		"$/a":    {"$", "a"},
		"$a/$b":  {"$a", "$b"},
		"a/$b":   {"a", "$b"},

		"/":       {"", ""},
		"//":      {"", "", ""},
		"///////": {"", "", "", "", "", "", "", ""},
		"/a":      {"", "a"},
		"a/":      {"a", ""},
		"/a/":     {"", "a", ""},
		"//a":     {"", "", "a"},
		"a//":     {"a", "", ""},
		"a//b":    {"a", "", "b"},
		"a///b":   {"a", "", "", "b"},
		"/$":      {"", "$"},
		"$/":      {"$", ""},
		"$//":     {"$", "", ""},

		"a/b/c/d/e/f/g":                   {"a", "b", "c", "d", "e", "f", "g"},
		"a/b/c/d/e/f/g/h":                 {"a", "b", "c", "d", "e", "f", "g", "h"},
		"///////h":                        {"", "", "", "", "", "", "", "h"},
		"a///////":                        {"a", "", "", "", "", "", "", ""},
		"/" + long(api.MaxName-1):         {"", long(api.MaxName - 1)},
		long(api.MaxName-1) + "/":         {long(api.MaxName - 1), ""},
		long(31) + "/" + long(32):         {long(31), long(32)},
		"a/b/c/d/e/f/g/" + long(50):       {"a", "b", "c", "d", "e", "f", "g", long(50)},
		long(57) + strings.Repeat("/", 7): {long(57), "", "", "", "", "", "", ""},
		"/" + long(55) + "//a/b//":        {"", long(55), "", "a", "b", "", ""},
	}
}

// noNames are texts that are no names, of all sorts.
func noNames() []string {
	list := []string{
		"",                                                                                 // no text
		long(api.MaxName + 1), long(api.MaxName + 2), long(2 * api.MaxName), long(1 << 20), // too long
		"/" + long(api.MaxName), long(api.MaxName) + "/", long(32) + "/" + long(32), "$" + long(api.MaxName),
		"////////", "a/b/c/d/e/f/g/h/i", "a/b/c/d/e/f/g/h/", "/a/b/c/d/e/f/g/h", "////////a", "a////////", // too many levels
		strings.Repeat("/", api.MaxName-1), strings.Repeat("/", api.MaxName), strings.Repeat("/", 1<<20), "$////////",
		"+", "#", "a+", "+a", "a#", "#a", "a/+", "a/#", "+/a", "#/a", "a/+/b", "a/b+c/d", "a/b#c/d", "$+", "$/#", "/+", "+/", "/#", "#/", "++", "##", "+#", // what filters have
		" ", "a b", " a", "a ", "a/ /b", "a/b ", " /a", "$ ", "\t", "a\n", "a\r", "\x00", "a\x00", "\x00a", "a/\x00", "\x1f", "\x7f", "a\x7f", "a/\x7f/b",
		"é", "aé", "a/é", "€", "𝄞", "\u00a0", "\uff0f", "\ufffd", "\x80", "a\x80b", "\xff", "a/\xff", "\xc3", "a\xc3/b", "$é",
	}
	return append(list, long(api.MaxName)+"+", "+"+long(api.MaxName), long(api.MaxName)+"\x00", "a/b/c/d/e/f/g/h/+", " ////////")
}

// noLevels are lists of levels of which no name is made, of all sorts.
func noLevels() [][]string {
	many := strings.Split(strings.Repeat("a/", 1<<17)+"a", "/")
	return [][]string{
		nil, {}, {""}, // no levels, and one empty one
		{"/"}, {"a/b"}, {"/a"}, {"a/"}, {"a", "b/c"}, {"a/b", "c"}, {"a", "/", "b"}, {"", "/"}, {"/", ""}, {"a", "b", "c", "d", "e", "f", "g", "h/"}, // a stroke
		{"a", "b", "c", "d", "e", "f", "g", "h", "i"}, {"", "", "", "", "", "", "", "", ""}, many, many[:api.MaxLevels+1], make([]string, 1<<17), // too many
		{long(api.MaxName + 1)}, {long(api.MaxName), ""}, {"", long(api.MaxName)}, {long(32), long(32)}, {long(api.MaxName), long(api.MaxName)}, // too long together
		{long(58), "", "", "", "", "", "", ""}, {"a", "b", "c", "d", "e", "f", "g", long(51)}, {long(1 << 20)}, {"a", long(1 << 20), "b"}, {long(1 << 20), long(1 << 20)},
		{"+"}, {"#"}, {"a", "+"}, {"a", "#"}, {"+", "a"}, {"a", "b+c", "d"}, {"a#", "b"}, {"", "+"}, // what filters have
		{" "}, {"a", " "}, {" a", "b"}, {"a", "b "}, {"\x00"}, {"a", "\x1f"}, {"a", "\x7f", "b"}, {"é"}, {"a", "€"}, {"\xff", ""}, {"a\x80"},
		{long(api.MaxName + 1), "/"}, {"/", long(api.MaxName + 1)}, {"+", "/"}, {"a/+"}, {"a/b", "c", "d", "e", "f", "g", "h", "i", "j"},
	}
}

// holds holds one call's answer and error against what they are to be.
func holds[A any](t *testing.T, what string, got A, e api.Errno, want A, err api.Errno) {
	t.Helper()
	if g, w := fmt.Sprintf("%#v, %d", got, int(e)), fmt.Sprintf("%#v, %d", want, int(err)); g != w {
		t.Errorf("%s: %s, want %s", what, g, w)
	}
}

// called is a call's text; of arguments that are long just the beginning.
func called(call string, arguments ...any) string {
	for i, a := range arguments {
		if text, ok := a.(string); ok && len(text) > 100 {
			arguments[i] = fmt.Sprint(text[:100], " .. of ", len(text), " bytes")
		}
		if list, ok := a.([]string); ok && (len(list) > 20 || len(strings.Join(list, "/")) > 200) {
			arguments[i] = fmt.Sprint(len(list), " levels")
		}
	}
	return fmt.Sprintf("%s%q", call, arguments)
}

// isName holds that a text is a name of these levels, and hidden or not.
func isName(t *testing.T, s string, levels []string, hidden bool) {
	t.Helper()
	holds(t, called("Check", s), 0, name.Check(s), 0, api.OK)
	got, e := name.Levels(s)
	holds(t, called("Levels", s), got, e, levels, api.OK)
	depth, e := name.Depth(s)
	holds(t, called("Depth", s), depth, e, len(levels), api.OK)
	holds(t, called("Hidden", s), name.Hidden(s), 0, hidden, 0)
	made, e := name.Of(levels...)
	holds(t, called("Of", levels), made, e, s, api.OK)
	whole, e := name.Above(s, len(levels))
	holds(t, called("Above", s, len(levels)), whole, e, s, api.OK)
}

// isNone holds that each call of a text that is no name says so, whatever else it is asked.
func isNone(t *testing.T, s string) {
	t.Helper()
	holds(t, called("Check", s), 0, name.Check(s), 0, api.ErrName)
	levels, e := name.Levels(s)
	holds(t, called("Levels", s), levels, e, nil, api.ErrName)
	depth, e := name.Depth(s)
	holds(t, called("Depth", s), depth, e, 0, api.ErrName)
	holds(t, called("Hidden", s), name.Hidden(s), 0, false, 0)
	for _, depth := range append([]int{1, 2, 7, api.MaxLevels}, noDepths...) {
		above, e := name.Above(s, depth)
		holds(t, called("Above", s, depth), above, e, "", api.ErrName)
	}
	for _, other := range []string{s, "a", "$", "/", "", "+", long(api.MaxName)} {
		first, e := name.Compare(s, other)
		holds(t, called("Compare", s, other), first, e, 0, api.ErrName)
		second, e := name.Compare(other, s)
		holds(t, called("Compare", other, s), second, e, 0, api.ErrName)
	}
}

func Example() {
	levels, _ := name.Levels("a//b")
	fmt.Printf("%q\n", levels)
	fmt.Println(name.Above("a/b/c", 2))
	// Output:
	// ["a" "" "b"]
	// a/b error 0
}

// 8.1, 8.3: names of one byte and of the most, of one level and of the most, empty levels wherever they are; the levels are those that make the name.
func TestNames(t *testing.T) {
	for s, levels := range names() {
		isName(t, s, levels, strings.HasPrefix(s, "$"))
	}
}

// 8.1, P1: texts that are no names.
func TestNoNames(t *testing.T) {
	for _, s := range noNames() {
		isNone(t, s)
	}
}

// 8.1: each byte, alone, and at each place of a level, ahead of a stroke and behind one.
func TestBytes(t *testing.T) {
	names := 0
	for x := range 256 {
		b := string([]byte{byte(x)})
		if b == "/" {
			continue
		}
		may := strings.Contains(good, b)
		for _, around := range [][2]string{{"", ""}, {"", "a"}, {"a", ""}, {"a", "a"}, {"", "/a"}, {"a/", ""}, {"/", "/"}, {"$", ""}, {"a/b/c/d/e/f/g/", ""}, {long(api.MaxName - 1), ""}, {"", long(api.MaxName - 1)}} {
			s := around[0] + b + around[1]
			if !may {
				isNone(t, s)
				continue
			}
			isName(t, s, strings.Split(s, "/"), s[0] == '$')
			names++
		}
	}
	if want := (94 - 3) * 11; names != want {
		t.Errorf("%d names of a byte, want %d", names, want)
	}
}

// 8.1: texts of all lengths about the most bytes, in one level and in several.
func TestLengths(t *testing.T) {
	for n := range 2*api.MaxName + 2 {
		for _, s := range []string{long(n), "/" + long(n), long(n) + "/", "a/b/" + long(n) + "/c"} {
			if len(s) < 1 || len(s) > api.MaxName {
				isNone(t, s)
			} else {
				isName(t, s, strings.Split(s, "/"), false)
			}
		}
	}
}

// 8.1: so many levels, empty ones and others, and the most of them as long as can be.
func TestLevelsOfAllNumbers(t *testing.T) {
	for n := 1; n <= api.MaxName; n++ {
		for _, level := range []string{"", "a", "ab", "$"} {
			levels := slices.Repeat([]string{level}, n)
			s := strings.Join(levels, "/")
			if n > api.MaxLevels || s == "" {
				isNone(t, s)
				made, e := name.Of(levels...)
				holds(t, called("Of", levels), made, e, "", api.ErrName)
			} else {
				isName(t, s, levels, level == "$")
			}
		}
	}
	seven := slices.Repeat([]string{long(7)}, api.MaxLevels) // with the strokes between them 63 bytes
	isName(t, strings.Join(seven, "/"), seven, false)
	seven[3] += "y"
	isName(t, strings.Join(seven, "/"), seven, false)
	seven[7] += "y"
	isNone(t, strings.Join(seven, "/"))
}

// 8.1: names that begin with $, with $ elsewhere, and what is no name though it begins so.
func TestHidden(t *testing.T) {
	for s, want := range map[string]bool{
		"$": true, "$$": true, "$a": true, "$/": true, "$/a": true, "$a/b": true, "$//": true, "$" + long(api.MaxName-1): true, "$a/b/c/d/e/f/g/h": true,
		"a": false, "a$": false, "/": false, "/$": false, "/$a": false, "a/$": false, "a/$b": false, "!$": false, "%": false, "S": false, long(api.MaxName-1) + "$": false,
		"": false, "$+": false, "$#": false, "$/+": false, "$/#": false, "$ ": false, "$\x00": false, "$é": false, "$" + long(api.MaxName): false, "$////////": false, "+$": false, " $": false,
	} {
		if got := name.Hidden(s); got != want {
			t.Errorf("%s: %v, want %v", called("Hidden", s), got, want)
		}
	}
}

// 8.1, P1: lists of which no name is made; they stay as they are.
func TestNoLevels(t *testing.T) {
	for _, levels := range noLevels() {
		was := slices.Clone(levels)
		s, e := name.Of(levels...)
		holds(t, called("Of", levels), s, e, "", api.ErrName)
		if !slices.Equal(levels, was) {
			t.Errorf("Of changed %q to %q", was, levels)
		}
	}
	s, e := name.Of()
	holds(t, "Of()", s, e, "", api.ErrName)
}

// 8.1: a level with a stroke is none, also where the text that they make together is a name.
func TestOfStroke(t *testing.T) {
	for s := range names() {
		made, e := name.Of(s)
		if strings.Contains(s, "/") {
			holds(t, called("Of", s), made, e, "", api.ErrName)
		} else {
			holds(t, called("Of", s), made, e, s, api.OK)
		}
	}
}

// 8.1: levels that have just the most bytes together, their strokes among them, wherever the longest is.
func TestOfLengths(t *testing.T) {
	for places := 1; places <= api.MaxLevels; places++ {
		for longest := range places {
			for most, want := range map[int]api.Errno{api.MaxName - 1: api.OK, api.MaxName: api.OK, api.MaxName + 1: api.ErrName} {
				levels := slices.Repeat([]string{"y"}, places)
				levels[longest] = long(most - 2*(places-1))
				s := ""
				if want == api.OK {
					s = strings.Join(levels, "/")
				}
				made, e := name.Of(levels...)
				holds(t, called("Of", levels), made, e, s, want)
			}
		}
	}
}

// 8.2, 8.5: depths of 1, of a name's own, and between; the first level empty, and levels that are empty further on.
func TestAbove(t *testing.T) {
	for _, c := range []struct {
		s     string
		depth int
		want  string
	}{
		{"a", 1, "a"}, {"$", 1, "$"}, {long(api.MaxName), 1, long(api.MaxName)},
		{"a/b", 1, "a"}, {"a/b", 2, "a/b"},
		{"a/b/c", 1, "a"}, {"a/b/c", 2, "a/b"}, {"a/b/c", 3, "a/b/c"},
		{"ab/cd/ef", 1, "ab"}, {"ab/cd/ef", 2, "ab/cd"},
		{"$a/b", 1, "$a"}, {"a/$b/c", 2, "a/$b"},
		{"/", 2, "/"}, {"//", 2, "/"}, {"//", 3, "//"}, {"///////", 7, "//////"}, {"///////", 8, "///////"},
		{"/a", 2, "/a"}, {"/a/b", 2, "/a"}, {"/a/b", 3, "/a/b"}, {"//a", 2, "/"}, {"//a", 3, "//a"},
		{"a/", 1, "a"}, {"a/", 2, "a/"}, {"a//b", 1, "a"}, {"a//b", 2, "a/"}, {"a//b", 3, "a//b"}, {"a//", 2, "a/"},
		{"a/b/c/d/e/f/g/h", 1, "a"}, {"a/b/c/d/e/f/g/h", 7, "a/b/c/d/e/f/g"}, {"a/b/c/d/e/f/g/h", 8, "a/b/c/d/e/f/g/h"},
		{long(62) + "/y", 1, long(62)}, {"y/" + long(62), 1, "y"},
	} {
		got, e := name.Above(c.s, c.depth)
		holds(t, called("Above", c.s, c.depth), got, e, c.want, api.OK)
	}
}

// 8.2: one empty level makes no name; two do.
func TestAboveOneEmptyLevel(t *testing.T) {
	for s, levels := range names() {
		if levels[0] == "" {
			above, e := name.Above(s, 1)
			holds(t, called("Above", s, 1), above, e, "", api.ErrName)
			above, e = name.Above(s, 2)
			holds(t, called("Above", s, 2), above, e, "/"+levels[1], api.OK)
		}
	}
}

// 8.2, P1: depths of 0, below it, and above the name's own, of names whose first level is empty, too.
func TestAboveNoDepth(t *testing.T) {
	for s, levels := range names() {
		for _, depth := range append(slices.Clone(noDepths), len(levels)+1, len(levels)+2, -len(levels)) {
			above, e := name.Above(s, depth)
			holds(t, called("Above", s, depth), above, e, "", api.ErrArg)
		}
	}
}

// 8.3 to 8.5: a name's levels make it again, the first of them those that are above it, which begin it and come ahead of it.
func TestEachAbove(t *testing.T) {
	for s, levels := range names() {
		for depth := 1; depth <= len(levels); depth++ {
			if depth == 1 && levels[0] == "" {
				continue
			}
			above, e := name.Above(s, depth)
			holds(t, called("Above", s, depth), above, e, strings.Join(levels[:depth], "/"), api.OK)
			if above != s && !strings.HasPrefix(s, above+"/") {
				t.Errorf("%q does not begin %q", above, s)
			}
			isName(t, above, levels[:depth], s[0] == '$')
			further, e := name.Above(s, min(depth+1, len(levels)))
			holds(t, called("Above", s, depth+1), 0, e, 0, api.OK)
			again, e := name.Above(further, depth)
			holds(t, called("Above", further, depth), again, e, above, api.OK)
		}
	}
}

// 8.1, P2: levels handed in stay as they are, the rest of the list behind them too, and are not kept.
func TestHandedIn(t *testing.T) {
	room := []string{"a", "", "b", "rest"}
	s, e := name.Of(room[:3]...)
	holds(t, "Of", s, e, "a//b", api.OK)
	holds(t, "the levels behind it", room, 0, []string{"a", "", "b", "rest"}, 0)
	room[0] = "c"
	holds(t, "the name behind it", s, 0, "a//b", 0)
	again, e := name.Of(room[:3]...)
	holds(t, "Of", again, e, "c//b", api.OK)
}

// 8.1: what Levels hands out is the caller's own: nobody else sees what becomes of it.
func TestHandedOut(t *testing.T) {
	for s, levels := range names() {
		first, _ := name.Levels(s)
		second, _ := name.Levels(s)
		for i := range first {
			first[i] = "+"
		}
		_ = append(first[:0], "#")
		holds(t, called("Levels", s)+", asked ahead", second, 0, levels, 0)
		isName(t, s, levels, s[0] == '$')
	}
}

// P2: what was refused changes nothing that is asked behind it.
func TestRefusedChangesNothing(t *testing.T) {
	for _, s := range noNames() {
		name.Check(s)
		name.Levels(s)
		name.Depth(s)
		name.Hidden(s)
		name.Above(s, 1)
		name.Above("/a", 1)
		name.Above("a/b", 3)
		name.Compare(s, "a")
		name.Of(s, "a")
		isName(t, "a//b", []string{"a", "", "b"}, false)
	}
}
