package dial_test

import (
	"slices"
	"testing"

	"turret/api"
	"turret/dial"
)

func pair(a, b int) [2]int { return [2]int{a, b} }

// P4.7

func TestPairs(t *testing.T) {
	near := span(500, 700)
	expectPairs(t, church(), readAll(600, 582), near, breeze(), pair(0, 1))
	expectPairs(t, church(), readAll(600, 582), near, gust())
	expectPairs(t, church(), readAll(600, 600), near, breeze())
	expectPairs(t, church(), readAll(600), near, breeze())
	expectPairs(t, church(), nil, near, breeze())
	// One that cannot be right at all is in a pair with each other one, but not with itself.
	expectPairs(t, church(), readAll(582), near, breeze())
	expectPairs(t, church(), readAll(600, 600, 582, 600), near, breeze(), pair(0, 2), pair(1, 2), pair(2, 3))
	expectPairs(t, church(), readAll(582, 582, 582), near, breeze(), pair(0, 1), pair(0, 2), pair(1, 2))
	expectPairs(t, church(), readAll(600, 5000, 600), near, breeze(), pair(0, 1), pair(1, 2))
	// All pairs, in ascending order.
	w := works(1, span(-100, 100), linked())
	expectPairs(t, w, readAll(600, 601, 602, 600), near, breeze(), pair(0, 1), pair(0, 2), pair(1, 2), pair(1, 3), pair(2, 3))
	// Each reading can be right, and each two, but not all of them.
	f := linked()
	f.Set = span(0, 1)
	g := linked()
	g.Set = span(-60, 0)
	three := works(60, single(0), set(span(0, 60)), g, linked(link(20, 1, 1)))
	expectPairs(t, three, readings(read(0, 660), read(1, 600), read(2, 650)), near, span(-1000, 1000))
	expectTimes(t, three, readings(read(0, 660), read(1, 600), read(2, 650)), near, span(-1000, 1000), span(660, 700))
	expectPairs(t, right(f, linked()), readings(read(0, 600), read(0, 601), read(0, 602), read(1, 600), read(1, 601)), near, breeze(),
		pair(0, 2), pair(0, 4), pair(2, 3), pair(3, 4))
}

func TestPairsOfOneClock(t *testing.T) {
	// Each of them can be right at 600, but not with the same error of the clock.
	w := works(1, span(-5, 5), linked(), linked(), set(span(0, 3)))
	near := span(500, 700)
	expectPairs(t, w, readings(read(0, 600), read(1, 602), read(2, 602)), near, breeze(), pair(0, 1))
	expectPairs(t, w, readings(read(2, 606), read(2, 602), read(0, 600), read(2, 604)), near, breeze(), pair(0, 1), pair(0, 2), pair(2, 3))
	expectPairs(t, w, readings(read(2, 602), read(2, 606), read(2, 605)), near, breeze(), pair(0, 1))
	// Near is for both: at 605 the clock drives the hands to 600 at least.
	expectPairs(t, w, readings(read(0, 599), read(0, 599)), span(605, 700), breeze(), pair(0, 1))
	expectPairs(t, w, readings(read(0, 600), read(0, 600)), span(605, 700), breeze())
	expectPairs(t, w, readings(read(0, 600), read(0, 600)), span(500, 594), breeze(), pair(0, 1))
	expectPairs(t, w, readings(read(0, 600), read(0, 600)), span(500, 595), breeze())
	// On both sides of noon.
	ahead := linked()
	ahead.Set = span(0, 3)
	w.Faces = append(w.Faces, ahead)
	expectPairs(t, w, readings(read(0, 43199), read(3, 2)), span(43100, 43300), breeze())
	expectPairs(t, w, readings(read(0, 43199), read(3, 3)), span(43100, 43300), breeze(), pair(0, 1))
}

func TestManyReadings(t *testing.T) {
	w := faced(plain(), linked())
	same := slices.Repeat(readings(read(1, 600), read(0, 600)), 10)
	expectPairs(t, w, same, span(500, 700), breeze())
	expectTimes(t, w, same, span(500, 700), breeze(), span(597, 631))
	other := slices.Clone(same)
	other[19] = read(0, 630)
	var pairs [][2]int
	for i := range 19 {
		pairs = append(pairs, pair(i, 19))
	}
	expectPairs(t, w, other, span(500, 700), breeze(), pairs...)
	expectTimes(t, w, other, span(500, 700), breeze())
}

func TestPairsAgainstAllTruths(t *testing.T) {
	for o, _ := range observations(13, 2500, few()) {
		expectPairs(t, o.works, o.readings, o.near, o.wind, o.pairs(everything)...)
	}
}

func TestPairsOfWideSpans(t *testing.T) {
	for o, _ := range observations(14, 16, many()) {
		expectPairs(t, o.works, o.readings, o.near, o.wind, o.pairs(turning)...)
	}
}

// A pair has no time at which both are right, and each two others have one.
func TestPairsHaveNoTimes(t *testing.T) {
	for o, _ := range observations(15, 500, few()) {
		pairs, _ := dial.Pairs(o.works, o.readings, o.near, o.wind)
		for i := range o.readings {
			for j := i + 1; j < len(o.readings); j++ {
				_, e := dial.Times(o.works, readings(o.readings[i], o.readings[j]), o.near, o.wind)
				if slices.Contains(pairs, pair(i, j)) != (e == api.ErrNone) {
					t.Fatalf("%v: the pairs are %v, and Times of %d and %d has the error %v", o, pairs, i, j, e)
				}
			}
		}
	}
}
