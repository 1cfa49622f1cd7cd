package strike_test

import (
	"slices"
	"testing"

	"turret/api"
	"turret/strike"
)

// goodQuiet are silences that are valid with and without half hours.
func goodQuiet() [][]api.Span {
	return [][]api.Span{
		nil, {}, {span(0, 0)}, {span(23, 23)}, {span(0, 23)}, {span(22, 23)}, {span(0, 5), span(20, 23)},
		{span(3, 5), span(6, 6)}, {span(3, 3), span(4, 4), span(5, 23)}, {span(3, 5), span(7, 9)}, {span(0, 11), span(12, 23)},
		nineSpans()[:8], nineSpans()[1:], {span(0, 0), span(1, 1), span(2, 2), span(3, 3), span(4, 4), span(5, 5), span(6, 6), span(7, 23)},
	}
}

// goodRules are valid, and have least and greatest values.
func goodRules() []api.StrikeRules {
	var list []api.StrikeRules
	for _, quiet := range goodQuiet() {
		list = append(list, kinds(quiet...)...)
	}
	for _, r := range []api.StrikeRules{night(), halved(span(0, 47)), halved(span(47, 47)), halved(span(24, 24)), halved(span(0, 23), span(24, 47))} {
		list = append(list, r, racked(r))
	}
	return list
}

// P5.1

func TestCheckAcceptsRules(t *testing.T) {
	for _, r := range goodRules() {
		if e := strike.Check(r); e != api.OK {
			t.Errorf("Check(%v) = %v", r, e)
		}
		_, e := strike.Blows(r, 0)
		_, f := strike.Day(r)
		_, _, g := strike.Misses(r, heard(at(0, 0)))
		_, _, h := strike.Play(r, 0, 0, nil)
		_, _, i := strike.Bring(r, 0, 0, 0)
		if e != api.OK || f != api.OK || g != api.OK || h != api.OK || i != api.OK {
			t.Errorf("%v: the errors %v, %v, %v, %v, %v", r, e, f, g, h, i)
		}
	}
}

func expectRulesError(t *testing.T, r api.StrikeRules, want api.Errno) {
	t.Helper()
	if e := strike.Check(r); e != want {
		t.Errorf("Check(%v) = %v; want %v", r, e, want)
	}
	if n, e := strike.Day(r); n != 0 || e != want {
		t.Errorf("Day(%v) = %d, %v; want the error %v", r, n, e, want)
	}
	for _, slot := range numbers(0, 7, -1, api.MaxStrikeSlot+1) {
		expectBlowsError(t, r, slot, want)
		for _, place := range numbers(0, 7, -1, 99) {
			for _, l := range [][]api.StrikeStep{nil, nothing(1), nothing(97), plan(off(49))} {
				expectPlayError(t, r, slot, place, l, want)
			}
			for _, until := range numbers(0, 8, -1, 5000000) {
				expectBringError(t, r, slot, place, until, want)
			}
		}
	}
	for _, l := range [][]api.StrikeHeard{nil, heard(at(0, 12)), heard(at(7, 13)), make([]api.StrikeHeard, 201), heard(at(0, 0), at(2000, 0))} {
		expectMissesError(t, r, l, want)
	}
}

// The errors of rules come first, whatever else is wrong.
func TestCheckRejectsRules(t *testing.T) {
	for _, r := range longRules() {
		expectRulesError(t, r, api.ErrLong)
	}
	for _, r := range badRules() {
		expectRulesError(t, r, api.ErrArg)
	}
}

// R3, R4

func TestNilAndEmpty(t *testing.T) {
	for _, r := range kinds() {
		empty := r
		empty.Quiet = []api.Span{}
		for slot := range 50 {
			n, _ := strike.Blows(r, slot)
			expectBlows(t, empty, slot, n)
		}
		expectPlay(t, empty, 5, 5, []api.StrikeStep{}, 5, 0)
		expectMissesError(t, empty, []api.StrikeHeard{}, api.ErrNone)
	}
}

func TestArgumentsAreNotChanged(t *testing.T) {
	x := seeded(1)
	for range 50 {
		r := randomRules(x)
		r.Rack = x.IntN(2) == 0
		quiet := slices.Clone(r.Quiet)
		l := hear(x, r, randomHistory(x, r, 3, 20, 5), 2)
		before := slices.Clone(l)
		steps := append(holding(5), nothing(5)...)
		strike.Check(r)
		strike.Blows(r, 3)
		strike.Day(r)
		strike.Misses(r, l)
		strike.Play(r, 3, 3, steps)
		strike.Bring(r, 3, 3, 20)
		if !slices.Equal(r.Quiet, quiet) || !slices.Equal(l, before) || !slices.Equal(steps, append(holding(5), nothing(5)...)) {
			t.Errorf("%v: the arguments became %v, %v, %v", quiet, r.Quiet, l, steps)
		}
	}
}

func TestResultsAreNew(t *testing.T) {
	l := heard(at(5, 1), at(6, 3), at(7, 1))
	_, places, _ := strike.Misses(night(), l)
	places[0] = 99
	expectMisses(t, night(), l, 0, 8)
	steps, _, _ := strike.Bring(night(), 6, 5, 7)
	steps[0] = held()
	expectBring(t, night(), 6, 5, 7, plan(off(1)), 1)
}
