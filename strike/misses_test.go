package strike_test

import (
	"slices"
	"testing"

	"turret/api"
	"turret/strike"
)

// P5.4

func TestMisses(t *testing.T) {
	expectMisses(t, night(), heard(at(5, 1), at(6, 3), at(7, 1)), 0, 8)
	expectMisses(t, night(), heard(at(5, 1), at(6, 4)), 0, 9)
	expectMissesError(t, night(), heard(at(6, 4), at(10, 3)), api.ErrState)
	expectMisses(t, night(), heard(at(1, 1), at(5, 2)), 1, 5)
	expectMisses(t, hourly(), heard(at(2, 2), at(4, 3)), 1, 4)
	expectMisses(t, hourly(), heard(at(2, 2), at(6, 3)), 3, 4)
	expectMisses(t, hourly(), heard(at(2, 2), at(3, 0), at(4, 3)), 1, 4)
	expectMisses(t, hourly(), heard(at(2, 2), at(3, 0), at(5, 3)), 2, 4)
	expectMisses(t, hourly(), heard(at(2, 2), at(3, 0), at(5, 4)), 1, 5)
	// Round the wheel once.
	expectMisses(t, hourly(), heard(at(2, 2), at(14, 2)), 0, 3)
	expectMisses(t, hourly(), heard(at(2, 2), at(15, 2)), 1, 3)
	expectMissesError(t, hourly(), heard(at(2, 2), at(13, 2)), api.ErrState)
	expectMissesError(t, hourly(), heard(at(2, 2), at(3, 2)), api.ErrState)
}

// Nobody listens at the slots before the first and after the last one.
func TestMissesOfASingleSlot(t *testing.T) {
	for n := 1; n <= 12; n++ {
		for _, slot := range numbers(0, 1, 12, 13, 777, api.MaxStrikeSlot) {
			expectMisses(t, hourly(), heard(at(slot, n)), 0, (n+1)%12)
		}
	}
	expectMisses(t, halved(), heard(at(5, 1)), 0, 0, 2, 3, 4, 6, 8, 10, 12, 14, 16, 18, 20, 22)
	expectMisses(t, halved(), heard(at(5, 12)), 0, 1)
	expectMisses(t, halved(), heard(at(5, 11)), 0, 23)
	// Nothing was heard: it missed, wherever it was.
	for _, r := range []api.StrikeRules{hourly(), halved()} {
		expectMisses(t, r, heard(at(5, 0)), 1, allPlaces(r)...)
		expectMisses(t, r, heard(at(5, 0), at(6, 0), at(8, 0)), 3, allPlaces(r)...)
	}
}

func TestMissesInSilence(t *testing.T) {
	r := hourly(span(3, 3), span(20, 23))
	expectMisses(t, r, heard(at(3, 0)), 0, allPlaces(r)...)
	expectMisses(t, r, heard(at(20, 0), at(21, 0), at(22, 0), at(23, 0)), 0, allPlaces(r)...)
	expectMisses(t, r, heard(at(19, 0), at(20, 0)), 1, allPlaces(r)...)
	expectMisses(t, r, heard(at(23, 0), at(24, 0)), 1, allPlaces(r)...)
	for n := 1; n <= 12; n++ {
		expectMissesError(t, r, heard(at(3, n)), api.ErrState)
		expectMissesError(t, r, heard(at(27, n)), api.ErrState)
		expectMissesError(t, r, heard(at(2, 2), at(3, n), at(4, 4)), api.ErrState)
	}
	// In silence the train runs, and may miss.
	expectMisses(t, r, heard(at(2, 2), at(3, 0), at(4, 4)), 0, 5)
	expectMisses(t, r, heard(at(2, 2), at(3, 0), at(4, 3)), 1, 4)
	expectMisses(t, r, heard(at(2, 2), at(4, 3)), 1, 4)
	expectMisses(t, r, heard(at(19, 5), at(24, 10)), 0, 11)
	expectMisses(t, r, heard(at(19, 5), at(24, 7)), 3, 8)
	expectMisses(t, r, heard(at(19, 5), at(24, 6)), 4, 7)
	expectMissesError(t, r, heard(at(19, 5), at(24, 5)), api.ErrState)
	expectMissesError(t, r, heard(at(19, 5), at(24, 11)), api.ErrState)
	// All day.
	all := halved(span(0, 47))
	expectMisses(t, all, heard(at(0, 0), at(100, 0)), 0, allPlaces(all)...)
	expectMissesError(t, all, heard(at(0, 0), at(100, 1)), api.ErrState)
}

func TestMissesAreFewest(t *testing.T) {
	// A half hour, and 1 o'clock, have one blow: it was at the place 1 or 2.
	expectMisses(t, halved(), heard(at(0, 1), at(1, 1)), 0, 3, 4)
	expectMisses(t, halved(), heard(at(0, 1), at(1, 1), at(2, 1)), 0, 4)
	expectMissesError(t, halved(), heard(at(0, 1), at(1, 1), at(2, 1), at(3, 1)), api.ErrState)
	expectMisses(t, halved(), heard(at(0, 1), at(1, 1), at(2, 1), at(3, 0)), 1, 4)
	expectMisses(t, halved(), heard(at(0, 1), at(1, 1), at(2, 1), at(4, 1)), 0, 6)
	// From the place 1 or 2 to the place 2 or 3 with one miss: this is not needed.
	expectMisses(t, halved(), heard(at(0, 1), at(2, 1)), 0, 0, 2, 4, 6, 8, 10, 12, 14, 16, 18, 20, 22)
	expectMisses(t, halved(), heard(at(0, 1), at(1, 0), at(2, 1)), 1, 3, 4)
	// Round the wheel: there are too few slots, just as many as are needed, and one more.
	expectMissesError(t, halved(), heard(at(0, 12), at(23, 12)), api.ErrState)
	expectMisses(t, halved(), heard(at(0, 12), at(24, 12)), 0, 1)
	expectMisses(t, halved(), heard(at(0, 12), at(25, 12)), 1, 1)
}

func TestErrorsOfHeard(t *testing.T) {
	long := make([]api.StrikeHeard, 201)
	for i := range long {
		long[i].Slot = 3 * i
	}
	for _, r := range kinds(span(3, 5)) {
		expectMissesError(t, r, nil, api.ErrNone)
		expectMissesError(t, r, long, api.ErrLong)
		expectMissesError(t, r, make([]api.StrikeHeard, 201), api.ErrLong)
		expectMissesError(t, r, slices.Repeat(heard(at(-1, 13)), 1000), api.ErrLong)
		expectMissesError(t, r, append(slices.Clone(long), at(1999999, 13)), api.ErrLong)
		for _, n := range append(wild(), api.MaxStrikeSlot+1, api.MaxStrikeSlot+2) {
			for _, l := range [][]api.StrikeHeard{{at(n, 0)}, {at(n, 5)}, {at(0, 0), at(n, 0)}, {at(api.MaxStrikeSlot, 0), at(n, 0)}, {at(n, 0), at(7, 0)}, {at(1, 0), at(n, 0), at(2, 0)}} {
				expectMissesError(t, r, l, api.ErrArg)
			}
		}
		for _, n := range append(wild(), 13, 14, 24) {
			for _, l := range [][]api.StrikeHeard{{at(7, n)}, {at(0, 0), at(7, n)}, {at(7, n), at(9, 0)}, {at(3, 12), at(7, n)}, {at(0, 0), at(2000, n)}, {at(0, n), at(5000, 0)}, append(long[:199:199], at(5000, n))} {
				expectMissesError(t, r, l, api.ErrArg)
			}
		}
		for _, l := range [][]api.StrikeHeard{{at(7, 0), at(7, 0)}, {at(7, 0), at(6, 0)}, {at(5, 0), at(8, 0), at(7, 0)}, {at(5, 0), at(5, 0), at(7, 0)}, {at(0, 0), at(3000, 0), at(2999, 0)}, {at(3000, 0), at(0, 0)}, {at(3, 1), at(3, 1)}} {
			expectMissesError(t, r, l, api.ErrArg)
		}
		for _, l := range [][]api.StrikeHeard{{at(0, 0), at(2000, 0)}, {at(1, 0), at(2001, 0)}, {at(0, 0), at(api.MaxStrikeSlot, 0)}, {at(3, 12), at(2003, 12)}, {at(0, 0), at(1000, 0), at(2000, 0)}, {at(api.MaxStrikeSlot-2000, 0), at(api.MaxStrikeSlot, 0)}, append(long[:199:199], at(2000, 0))} {
			expectMissesError(t, r, l, api.ErrLong)
		}
	}
}

// As much as is allowed.
func TestMissesOfLongLists(t *testing.T) {
	for _, r := range kinds(span(3, 5)) {
		for _, first := range numbers(0, 5, api.MaxStrikeSlot-1999) {
			var all []api.StrikeHeard
			for slot := range 200 {
				all = append(all, at(first+slot, dueAt(r, first+slot)))
			}
			expectMisses(t, r, all, 0, rightOf(r, first+200))
			expectMisses(t, r, append(all[:199:199], at(first+1999, dueAt(r, first+1999))), 0, rightOf(r, first+2000))
			expectMisses(t, r, slices.Concat(all[:150], heard(at(first+1999, dueAt(r, first+1999)))), 0, rightOf(r, first+2000))
		}
		expectMissesError(t, r, heard(at(0, 12), at(1999, 0), at(2000, 0)), api.ErrLong)
	}
	for from := 1; from <= 12; from++ {
		for to := 1; to <= 12; to++ {
			expectMisses(t, hourly(), heard(at(0, from), at(1999, to)), (from+1999-to)%12, (to+1)%12)
		}
	}
}

func TestMissesAgainstAllTruths(t *testing.T) {
	x := seeded(3)
	for range 400 {
		r := randomRules(x)
		r.Rack = x.IntN(4) == 0
		l := hear(x, r, randomHistory(x, r, x.IntN(100), 1+x.IntN(8), 1+x.IntN(6)), 1+x.IntN(3))
		expectFound(t, r, l, foundOfAll(r, l))
		// What was heard wrongly often has no truth.
		wrong := &l[x.IntN(len(l))]
		wrong.Blows = x.IntN(13)
		expectFound(t, r, l, foundOfAll(r, l))
	}
}

func TestMissesOfLongSpans(t *testing.T) {
	x := seeded(4)
	for range 60 {
		r := randomRules(x)
		many := 1 + x.IntN(400)
		l := hear(x, r, randomHistory(x, r, x.IntN(api.MaxStrikeSlot-many), many, 2+x.IntN(20)), 1+x.IntN(12))
		expectFound(t, r, l, foundByCounts(r, l))
		l[x.IntN(len(l))].Blows = x.IntN(13)
		expectFound(t, r, l, foundByCounts(r, l))
	}
}

// P5.7

func TestWhatIsTrueIsFound(t *testing.T) {
	x := seeded(5)
	for range 200 {
		r := randomRules(x)
		r.Rack = x.IntN(4) == 0
		many := 1 + x.IntN(500)
		h := randomHistory(x, r, x.IntN(api.MaxStrikeSlot-many), many, 3+x.IntN(100))
		l := hear(x, r, h, 1+x.IntN(8))
		_, end, missed := h.run(r)
		fewest, places, e := strike.Misses(r, l)
		if e != api.OK || fewest > missed || fewest == missed && !slices.Contains(places, end) {
			t.Fatalf("%v, %v: missed %d times, at the place %d; found %d, %v, %v", r, l, missed, end, fewest, places, e)
		}
		if !slices.IsSorted(places) || len(slices.Compact(slices.Clone(places))) != len(places) {
			t.Fatalf("%v, %v: the places %v", r, l, places)
		}
	}
}

func TestWithMoreHeardThereAreNoFewerMisses(t *testing.T) {
	x := seeded(6)
	for range 200 {
		r := randomRules(x)
		r.Rack = x.IntN(4) == 0
		many := 2 + x.IntN(60)
		l := hear(x, r, randomHistory(x, r, x.IntN(1000), many, 1+x.IntN(10)), 1+x.IntN(3))
		more, _, _ := strike.Misses(r, l)
		i := x.IntN(len(l))
		l = slices.Delete(l, i, i+1)
		if fewer, _, e := strike.Misses(r, l); e != api.OK || fewer > more {
			t.Fatalf("%v, %v: %d misses, %v; with more that was heard %d", r, l, fewer, e, more)
		}
	}
}
