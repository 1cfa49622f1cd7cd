package dial_test

import (
	"slices"
	"testing"

	"turret/api"
	"turret/dial"
)

// P4.5

func TestShows(t *testing.T) {
	expectShows(t, church(), 0, 600, breeze(), single(570), single(600))
	expectShows(t, church(), 0, 2400, breeze(), single(2352), single(2382))
	expectShows(t, church(), 0, 600, gust(), span(552, 570), span(582, 600))
	expectShows(t, right(plain()), 0, 600, breeze(), single(600))
	expectShows(t, right(linked()), 0, 600, gust(), single(600))
	expectShows(t, works(1, span(-5, 9), linked()), 0, 600, gust(), span(595, 609))
	// Each face has its own hands.
	two := faced(linked(), plain(), set(span(100, 102)))
	expectShows(t, two, 0, 2400, breeze(), single(2370), single(2400))
	expectShows(t, two, 1, 2400, breeze(), single(2352), single(2382))
	expectShows(t, two, 2, 2400, breeze(), span(2452, 2454), span(2482, 2484))
	// Three places: the last one that falls, and two that rise.
	expectShows(t, works(100, span(-100, 100), plain()), 0, 1800, breeze(), single(1700), single(1782), single(1882))
	// A lag reaches back beyond the place before.
	expectShows(t, works(15, span(-1, 1), plain()), 0, 1800, breeze(), single(1782), single(1785))
	expectShows(t, works(18, span(-1, 1), plain()), 0, 1800, breeze(), single(1782))
}

func TestSpansAreJoined(t *testing.T) {
	wide := func(high int) api.DialWorks {
		f := linked()
		f.Set = span(0, high)
		return works(30, span(-2, 3), f)
	}
	// What touches is one span; what lacks an integer is two.
	expectShows(t, wide(28), 0, 600, breeze(), span(570, 598), span(600, 628))
	expectShows(t, wide(29), 0, 600, breeze(), span(570, 629))
	expectShows(t, wide(30), 0, 600, breeze(), span(570, 630))
	expectShows(t, wide(3600), 0, 600, breeze(), span(570, 4200))
	// A span that begins later, and ends earlier, than one before it.
	f := linked(link(10, 1, 1))
	f.Weight = 100
	expectShows(t, works(10, span(-10, 0), f), 0, 1800, single(0), span(1764, 1764), span(1790, 1790))
	expectShows(t, works(10, span(-10, 0), f), 0, 3600, span(-105, 0), span(3554, 3554), span(3564, 3600))
	expectShows(t, works(10, span(-10, 0), f), 0, 1800, span(-105, 0), span(1754, 1790))
}

func TestShowsOnBothSidesOfNoon(t *testing.T) {
	for _, noon := range numbers(43200, 86400, 71*43200, api.MaxTime) {
		expectShows(t, works(1, span(-5, 9), linked()), 0, noon, single(0), span(0, 9), span(43195, 43199))
		expectShows(t, works(1, span(-5, 0), linked()), 0, noon, single(0), single(0), span(43195, 43199))
		expectShows(t, works(1, span(-5, -1), linked()), 0, noon, single(0), span(43195, 43199))
		expectShows(t, works(1, span(0, 9), linked()), 0, noon, single(0), span(0, 9))
		expectShows(t, works(1, single(0), linked()), 0, noon, single(0), single(0))
		expectShows(t, works(1, single(0), linked()), 0, noon-1, single(0), single(43199))
		expectShows(t, works(30, span(-2, 3), linked()), 0, noon, single(0), single(0), single(43170))
		expectShows(t, works(1, single(0), plain()), 0, noon, span(-100, 100), single(0), span(43182, 43199))
		expectShows(t, works(1, single(0), plain()), 0, noon, single(-100), single(43182))
		expectShows(t, works(1, single(0), set(span(-30, 40))), 0, noon-20, breeze(), span(0, 2), span(43132, 43199))
	}
	// Before the noon of the day 0.
	expectShows(t, works(1, span(-5, 9), linked()), 0, 0, single(0), span(0, 9), span(43195, 43199))
	expectShows(t, works(30, single(-1), linked()), 0, 0, single(0), single(43170))
	expectShows(t, works(3600, single(-3600), set(single(-3600))), 0, 0, breeze(), single(36000))
}

func TestShowsAgainstAllTruths(t *testing.T) {
	for s := range settings(8, 500, few()) {
		expectShows(t, s.works, s.face, s.at, s.wind, s.shown()...)
		expectShows(t, s.works, s.face, s.at, s.wind, s.spread()...)
	}
}

func TestShowsOfWideSpans(t *testing.T) {
	for s := range settings(9, 100, many()) {
		expectShows(t, s.works, s.face, s.at, s.wind, s.spread()...)
	}
	for _, w := range goodWorks() {
		for _, at := range numbers(0, 1800, 43195, api.MaxTime) {
			s := setting{w, len(w.Faces) - 1, at, gust()}
			expectShows(t, s.works, s.face, s.at, s.wind, s.spread()...)
		}
	}
}

// R4, R5: results share no memory, and arguments stay as they are.

func TestMemory(t *testing.T) {
	w := faced(plain(), linked(link(5, 1, 1), link(7, 12, 1)))
	l := readings(read(0, 582), read(1, 600))
	first, _ := dial.Shows(w, 1, 600, gust())
	times, _ := dial.Times(w, l, span(500, 700), gust())
	before, ago := slices.Clone(first), slices.Clone(times)
	second, _ := dial.Shows(w, 1, 600, gust())
	for i := range second {
		second[i] = single(-1)
	}
	again, _ := dial.Times(w, l, span(500, 700), gust())
	for i := range again {
		again[i] = single(-1)
	}
	pairs, _ := dial.Pairs(w, append(l, read(1, 9)), span(500, 700), gust())
	for i := range pairs {
		pairs[i] = [2]int{-1, -1}
	}
	if !slices.Equal(first, before) || !slices.Equal(times, ago) {
		t.Errorf("results share memory: %v is %v, and %v is %v", before, first, ago, times)
	}
	expectShows(t, w, 1, 600, gust(), before...)
	expectTimes(t, w, l, span(500, 700), gust(), ago...)
	expectPairs(t, w, append(l, read(1, 9)), span(500, 700), gust(), [2]int{0, 2}, [2]int{1, 2})
	if !slices.Equal(l, readings(read(0, 582), read(1, 600))) || !slices.Equal(w.Faces[1].Links, links(link(5, 1, 1), link(7, 12, 1))) || len(w.Faces) != 2 {
		t.Errorf("arguments are changed to %v, %v", w, l)
	}
}
