package name_test

import (
	"strings"
	"testing"

	"postrider/api"
	"postrider/name"
)

// cutUp is a text's levels, as the words say it: a stroke lies between two.
func cutUp(s string) []string {
	levels := []string{""}
	for i := range len(s) {
		if s[i] == '/' {
			levels = append(levels, "")
		} else {
			levels[len(levels)-1] += s[i : i+1]
		}
	}
	return levels
}

// mayBe is if a text is a name, as the words say it.
func mayBe(s string) bool {
	for i := range len(s) {
		if !strings.Contains(good+"/", s[i:i+1]) {
			return false
		}
	}
	return len(s) >= 1 && len(s) <= 64 && len(cutUp(s)) <= 8
}

// holdText holds all calls of a text against the words.
func holdText(t *testing.T, s string) {
	t.Helper()
	if !mayBe(s) {
		isNone(t, s)
		return
	}
	levels := cutUp(s)
	isName(t, s, levels, s[0] == '$')
	for depth := -1; depth <= len(levels)+1; depth++ {
		want, err := "", api.ErrArg
		if depth >= 1 && depth <= len(levels) {
			want, err = strings.Join(levels[:depth], "/"), api.OK
		}
		if err == api.OK && want == "" {
			err = api.ErrName
		}
		above, e := name.Above(s, depth)
		holds(t, called("Above", s, depth), above, e, want, err)
	}
}

// holdLevels holds Of against the words, and what it makes against the levels that it was made of.
func holdLevels(t *testing.T, levels ...string) {
	t.Helper()
	want, err := strings.Join(levels, "/"), api.OK
	if len(levels) == 0 || strings.Contains(strings.Join(levels, ""), "/") || !mayBe(want) {
		want, err = "", api.ErrName
	}
	s, e := name.Of(levels...)
	holds(t, called("Of", levels), s, e, want, err)
	if e == api.OK {
		again, e := name.Levels(s)
		holds(t, called("Levels", s), again, e, levels, api.OK)
	}
}

// eachText gives out all texts of up to so many of these pieces.
func eachText(pieces []string, most int, give func(s string)) {
	give("")
	if most > 0 {
		for _, piece := range pieces {
			eachText(pieces, most-1, func(s string) { give(piece + s) })
		}
	}
}

// eachList gives out all lists of up to so many of these levels.
func eachList(levels []string, most int, give func(list []string)) {
	give(nil)
	if most > 0 {
		for _, level := range levels {
			eachList(levels, most-1, func(list []string) { give(append([]string{level}, list...)) })
		}
	}
}

// 8.1 to 8.3, 8.5, P1: each text of up to four bytes from eight.
func TestShortTexts(t *testing.T) {
	eachText([]string{"a", "b", "/", "$", "!", "+", "#", "\x80"}, 4, func(s string) { holdText(t, s) })
}

// 8.1, 8.3, P1: each text of up to ten strokes and letters.
func TestStrokes(t *testing.T) {
	eachText([]string{"a", "/"}, 10, func(s string) { holdText(t, s) })
}

// 8.1, 8.3, P1: each list of up to four levels from nine.
func TestShortLists(t *testing.T) {
	eachList([]string{"", "a", "$", "bc", "/", "a/", "+", "a#", long(31)}, 4, func(levels []string) { holdLevels(t, levels...) })
}

// 8.4: each two names of up to four bytes from five.
func TestShortNamesCompared(t *testing.T) {
	var list []string
	eachText([]string{"a", "/", "!", "$", "b"}, 4, func(s string) {
		if s != "" {
			list = append(list, s)
		}
	})
	for _, a := range list {
		for _, b := range list {
			if got, want := compared(t, a, b), asTold(a, b); got != want {
				t.Fatalf("Compare(%q, %q): %d, want %d", a, b, got, want)
			}
		}
	}
}

// 8.1 to 8.3, 8.5, P1: long texts from a fixed rule, about the most bytes and the most levels.
func TestLongTexts(t *testing.T) {
	seed := uint32(8)
	below := func(n int) int {
		seed = seed*1664525 + 1013904223
		return int(seed>>8) % n
	}
	named := 0
	for range 8000 {
		b := make([]byte, 50+below(18))
		for i := range b {
			b[i] = good[below(len(good))]
		}
		for range below(11) {
			b[below(len(b))] = '/'
		}
		if below(8) == 0 {
			b[below(len(b))] = "+# \x00\x7f\xff\x1f\xc3"[below(8)]
		}
		s := string(b)
		holdText(t, s)
		if mayBe(s) {
			named++
		}
	}
	if named < 2000 || named > 6000 {
		t.Errorf("%d names of 8000 texts", named)
	}
}
