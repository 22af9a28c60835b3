package filter_test

import (
	"slices"
	"strings"
	"testing"

	"postrider/api"
	"postrider/filter"
)

// cutUp is a text's levels, as the words say it: a stroke lies between two.
func cutUp(s string) []string {
	levels := []string{""}
	for i := range len(s) {
		if s[i] == '/' {
			levels = append(levels, "")
		} else {
			levels[len(levels)-1] += s[i : i+1]
		}
	}
	return levels
}

// mayBe is if a text is a filter, as the words say it.
func mayBe(s string) bool {
	levels := cutUp(s)
	for i, level := range levels {
		for k := range len(level) {
			switch b := level[k]; {
			case b < 33 || b > 126:
				return false
			case b == '+' && len(level) > 1:
				return false
			case b == '#' && (len(level) > 1 || i < len(levels)-1):
				return false
			}
		}
	}
	return len(s) >= 1 && len(s) <= 64 && len(levels) <= 8
}

// isWild is if a text has a wild level's byte, and isName if it is a name, as the words say it.
func isWild(s string) bool { return strings.Contains(s, "+") || strings.Contains(s, "#") }
func isName(s string) bool { return mayBe(s) && !isWild(s) }

// asTold is if a filter matches a name, as the words say it.
func asTold(s, name string) bool {
	if (s[0] == '+' || s[0] == '#') && name[0] == '$' {
		return false
	}
	return levelsMatch(cutUp(s), cutUp(name))
}

func levelsMatch(wanted, levels []string) bool {
	switch {
	case len(wanted) == 0:
		return len(levels) == 0
	case wanted[0] == "#":
		return true
	case len(levels) == 0:
		return false
	}
	return (wanted[0] == "+" || wanted[0] == levels[0]) && levelsMatch(wanted[1:], levels[1:])
}

// coversAsTold is if a filter covers another one, as the words say it.
func coversAsTold(a, b string) bool {
	if (a[0] == '+' || a[0] == '#') && b[0] == '$' {
		return false
	}
	return levelsCover(cutUp(a), cutUp(b))
}

func levelsCover(wanted, levels []string) bool {
	if len(wanted) == 0 || len(levels) == 0 {
		return len(levels) == 0 && (len(wanted) == 0 || wanted[0] == "#")
	}
	by := false
	switch levels[0] {
	case "+":
		by = wanted[0] == "+" || wanted[0] == "#"
	case "#":
		by = wanted[0] == "#"
	default:
		by = wanted[0] == "+" || wanted[0] == "#" || wanted[0] == levels[0]
	}
	return by && (wanted[0] == "#" || levelsCover(wanted[1:], levels[1:]))
}

// holdText holds all calls of a text against the words.
func holdText(t *testing.T, s string) {
	t.Helper()
	if !mayBe(s) {
		isNone(t, s)
		return
	}
	isFilter(t, s, cutUp(s), isWild(s))
}

// holdPair holds what is asked of a text for a filter and one for a name against the words.
func holdPair(t *testing.T, s, name string) {
	t.Helper()
	want, err := false, api.OK
	switch {
	case !mayBe(s):
		err = api.ErrFilter
	case !isName(name):
		err = api.ErrName
	default:
		want = asTold(s, name)
	}
	match, e := filter.Match(s, name)
	if match != want || e != err {
		t.Fatalf("%s: %v, %d, want %v, %d", called("Match", s, name), match, int(e), want, int(err))
	}

	place := -1
	switch {
	case !isName(name):
		place, err = 0, api.ErrName
	case err != api.OK || want:
		place = 0
	}
	at, e := filter.Any(name, s)
	if at != place || e != err {
		t.Fatalf("%s: %d, %d, want %d, %d", called("Any", name, s), at, int(e), place, int(err))
	}
}

// holdCover holds what is asked of two texts for filters against the words.
func holdCover(t *testing.T, a, b string) {
	t.Helper()
	want, err := false, api.ErrFilter
	if mayBe(a) && mayBe(b) {
		want, err = coversAsTold(a, b), api.OK
	}
	covers, e := filter.Covers(a, b)
	if covers != want || e != err {
		t.Fatalf("%s: %v, %d, want %v, %d", called("Covers", a, b), covers, int(e), want, int(err))
	}
}

// texts are all texts of up to so many of these pieces.
func texts(pieces []string, most int) []string {
	list := []string{""}
	for from := 0; most > 0; most-- {
		to := len(list)
		for _, s := range list[from:to] {
			for _, piece := range pieces {
				list = append(list, s+piece)
			}
		}
		from = to
	}
	return list
}

// ofLevels are all texts of one up to so many of these levels.
func ofLevels(levels []string, most int) []string {
	var list []string
	last := []string{""}
	for n := range most {
		var next []string
		for _, s := range last {
			for _, level := range levels {
				if n > 0 {
					level = s + "/" + level
				}
				next = append(next, level)
			}
		}
		list, last = append(list, next...), next
	}
	return list
}

// rule is a fixed rule that numbers below others come from.
func rule() func(n int) int {
	seed := uint32(9)
	return func(n int) int {
		seed = seed*1664525 + 1013904223
		return int(seed>>8) % n
	}
}

// 9.1, 9.6, P1: each text of up to four bytes from nine.
func TestShortTexts(t *testing.T) {
	for _, s := range texts([]string{"a", "b", "/", "$", "!", "+", "#", " ", "\x80"}, 4) {
		holdText(t, s)
	}
}

// 9.1, P1: each text of up to nine strokes, pluses and hashes.
func TestStrokes(t *testing.T) {
	for _, s := range texts([]string{"/", "+", "#"}, 9) {
		want := api.ErrFilter
		if mayBe(s) {
			want = api.OK
		}
		if e := filter.Check(s); e != want {
			t.Fatalf("%s: %d, want %d", called("Check", s), int(e), int(want))
		}
		if is := filter.Wild(s); is != (mayBe(s) && isWild(s)) {
			t.Fatalf("%s: %v", called("Wild", s), is)
		}
	}
}

// 9.1, 9.2, P1: each two texts of up to four bytes from six, as a filter and a name, and as two filters.
func TestShortPairs(t *testing.T) {
	list := texts([]string{"a", "b", "/", "$", "+", "#"}, 4)
	for _, s := range list {
		if !mayBe(s) && len(s) > 3 {
			continue
		}
		for _, other := range list {
			if mayBe(s) || len(other) < 3 {
				holdPair(t, s, other)
				holdCover(t, s, other)
			}
		}
	}
}

// 9.2, 9.5: each two filters of up to three levels from six: the one covers the other as the words say it, and if so, just if it matches each name that the other one matches. (Three pairs are apart by the words alone: a + covers no #, though each name that the # matches has a level there, as one empty level is no name.)
func TestCoversJustThose(t *testing.T) {
	alone := [][2]string{{"+/#", "#"}, {"/+/#", "/#"}, {"+/+/#", "/#"}}
	list := slices.DeleteFunc(ofLevels([]string{"a", "b", "", "$", "+", "#"}, 3), func(s string) bool { return !mayBe(s) })
	all := slices.DeleteFunc(ofLevels([]string{"a", "b", "", "$", "z"}, 4), func(s string) bool { return !isName(s) })
	match := map[string][]bool{}
	for _, s := range list {
		for _, name := range all {
			match[s] = append(match[s], matches(t, s, name))
		}
	}
	found := 0
	for _, a := range list {
		for _, b := range list {
			holdCover(t, a, b)
			var more []string
			for i, name := range all {
				if match[b][i] && !match[a][i] {
					more = append(more, name)
				}
			}
			apart := slices.Contains(alone, [2]string{a, b})
			if covered(t, a, b) != (len(more) == 0 && !apart) {
				t.Errorf("%s: %v; what the second matches and the first does not: %.100q", called("Covers", a, b), covered(t, a, b), more)
			}
			if apart {
				found++
			}
		}
	}
	if found != len(alone) {
		t.Errorf("%d pairs that the words alone tell apart, want %d", found, len(alone))
	}
}

// 9.1 to 9.6, P1: long texts from a fixed rule, about the most bytes and the most levels, against names and filters that are near them.
func TestLongTexts(t *testing.T) {
	below := rule()
	fine, matched, covers := 0, 0, 0
	for range 8000 {
		levels := make([]string, 1+below(9))
		for i := range levels {
			from := below(len(good))
			levels[i] = good[from:min(len(good), from+below(14))]
		}
		name := strings.Join(levels, "/")
		turned := func() string {
			list := slices.Clone(levels)
			for range below(4) {
				list[below(len(list))] = []string{"+", "+", "+", "", "a", "$", "#", "a+"}[below(8)]
			}
			if below(3) == 0 {
				list = append(list[:below(len(list)+1)], "#")
			}
			return strings.Join(list, "/")
		}
		a, b := turned(), turned()
		holdText(t, name)
		holdText(t, a)
		holdPair(t, a, name)
		holdPair(t, a, b)
		holdCover(t, a, b)
		if mayBe(a) && mayBe(b) && isName(name) {
			fine++
			if matches(t, a, name) {
				matched++
			}
			if covered(t, a, b) {
				covers++
			}
			if covered(t, a, b) && matches(t, b, name) && !matches(t, a, name) {
				t.Fatalf("%q covers %q, which matches %q, and does not match it", a, b, name)
			}
		}
	}
	if fine < 2000 || matched < 800 || covers < 500 || matched > fine*3/4 || covers > fine*3/4 {
		t.Errorf("%d of 8000 texts are right, %d match, %d cover", fine, matched, covers)
	}
}
