package drop_test

import (
	"slices"
	"testing"

	"turret/api"
	"turret/drop"
)

// P2.1

func TestCheckAcceptsClocks(t *testing.T) {
	for _, c := range []api.DropClock{
		exampleClock(), even(1, 0), even(3000, 3000), even(1, 3000),
		clock(1, each(span(0, 3000))), clock(3000, with(each(span(7, 7)), 23, span(0, 0))),
	} {
		if e := drop.Check(c); e != api.OK {
			t.Errorf("Check(%v) = %v", c, e)
		}
	}
}

func TestCheckRejectsClocks(t *testing.T) {
	for _, c := range badClocks() {
		if e := drop.Check(c); e != api.ErrArg {
			t.Errorf("Check(%v) = %v", c, e)
		}
	}
}

func TestClockErrorsComeFirst(t *testing.T) {
	good := visit(span(1, 2), span(1, 1))
	for _, c := range badClocks() {
		for _, l := range [][]api.DropVisit{nil, {good}, repeated(good, 11), badVisits()[0]} {
			for _, n := range append(wild(), 0, 1) {
				expectError(t, setting{c, n, l}, 1, api.ErrArg)
				expectError(t, setting{c, 0, l}, n, api.ErrArg)
				expectRoundError(t, c, l, n, n, api.ErrArg)
				expectGoesError(t, c, n, 0, api.ErrArg)
				expectGoesError(t, c, 0, n, api.ErrArg)
			}
		}
	}
}

// The errors of visits

func TestTooManyVisits(t *testing.T) {
	good, c := visit(span(1, 2), span(1, 1)), exampleClock()
	bad := visit(span(2, 1), span(-1, 3001))
	for _, l := range [][]api.DropVisit{repeated(good, 11), repeated(good, 100), repeated(bad, 11), append(repeated(good, 10), bad), make([]api.DropVisit, 12)} {
		for _, n := range append(wild(), 0, 1, 60, 101) {
			expectError(t, setting{c, n, l}, 5, api.ErrLong)
			expectError(t, setting{c, 5, l}, n, api.ErrLong)
			expectRoundError(t, c, l, n, 5, api.ErrLong)
			expectRoundError(t, c, l, 1, n, api.ErrLong)
		}
	}
}

func TestBadVisits(t *testing.T) {
	for _, l := range badVisits() {
		for _, n := range append(wild(), 0, 1, 60, 101) {
			expectError(t, setting{exampleClock(), n, l}, 5, api.ErrArg)
			expectError(t, setting{exampleClock(), 5, l}, n, api.ErrArg)
			expectRoundError(t, exampleClock(), l, n, 5, api.ErrArg)
			expectRoundError(t, exampleClock(), l, 1, n, api.ErrArg)
		}
	}
}

func TestGoodVisits(t *testing.T) {
	one := span(1, 1)
	for _, l := range [][]api.DropVisit{
		nil, {}, {visit(span(0, 0), span(0, 0))}, {visit(span(2000, 2000), span(3000, 3000))}, {visit(span(0, 2000), span(0, 3000))},
		repeated(visit(span(0, 2000), one), 10), repeated(visit(span(2000, 2000), one), 10), make([]api.DropVisit, 10),
		{visit(span(1, 5), one), visit(span(1, 6), one), visit(span(2, 6), one), visit(span(7, 9), one)},
	} {
		for _, hour := range numbers(0, 1, 2000) {
			for _, start := range numbers(0, 1, 100) {
				checkNoError(t, setting{exampleClock(), start, l}, hour)
			}
		}
	}
}

func checkNoError(t *testing.T, s setting, hour int) {
	t.Helper()
	_, _, e := drop.Left(s.clock, s.start, s.visits, hour)
	stops, f := drop.Stops(s.clock, s.start, s.visits, hour)
	_, g := drop.Worst(s.clock, s.start, s.visits, hour)
	want := api.OK
	if stops.Low == hour {
		want = api.ErrNone
	}
	if e != api.OK || f != api.OK || g != want {
		t.Errorf("%v, %d: the errors %v, %v, %v", s, hour, e, f, g)
	}
}

func TestStartAndHourErrors(t *testing.T) {
	for _, l := range [][]api.DropVisit{nil, exampleVisits()} {
		for _, n := range append(wild(), 101) {
			expectError(t, setting{exampleClock(), n, l}, 5, api.ErrRange)
			expectError(t, setting{exampleClock(), n, l}, n, api.ErrRange)
			expectGoesError(t, exampleClock(), n, 5, api.ErrRange)
			expectGoesError(t, exampleClock(), n, n, api.ErrRange)
		}
		for _, n := range append(wild(), 2001) {
			expectError(t, setting{exampleClock(), 5, l}, n, api.ErrRange)
			expectGoesError(t, exampleClock(), 5, n, api.ErrRange)
		}
	}
	// Worst has ErrNone last.
	expectError(t, setting{even(100, 0), 101, nil}, 5, api.ErrRange)
	expectError(t, setting{even(100, 0), 100, nil}, 2001, api.ErrRange)
}

// The errors of rounds

func TestRoundErrors(t *testing.T) {
	c := exampleClock()
	for _, days := range append(wild(), 0, 61) {
		expectRoundError(t, c, nil, days, 5, api.ErrRange)
		expectRoundError(t, c, exampleRound(), days, 5, api.ErrRange)
	}
	for _, days := range numbers(1, 2, 60) {
		at := func(hour int) []api.DropVisit {
			return visits(visit(span(0, 1), span(1, 1)), visit(span(3, hour), span(1, 1)))
		}
		expectRoundError(t, c, at(24*days), days, 5, api.ErrRange)
		expectRoundError(t, c, at(2000), days, 5, api.ErrRange)
		expectRoundError(t, c, visits(visit(span(24*days, 24*days), span(100, 100))), days, 5, api.ErrRange)
		if _, e := drop.Proves(c, at(24*days-1), days, 5); e != api.OK {
			t.Errorf("Proves for a visit in the last hour of %d days: %v", days, e)
		}
	}
	for _, least := range append(wild(), 101) {
		got, e := drop.Proves(c, exampleRound(), 1, least)
		if got || e != api.ErrRange {
			t.Errorf("Proves for the number %d: %v, %v", least, got, e)
		}
	}
	// Forever has ErrNone last.
	expectForeverError(t, c, nil, 0, api.ErrRange)
	expectForeverError(t, c, nil, 1, api.ErrNone)
}

// R3, R4

func TestNilAndEmptyVisits(t *testing.T) {
	c := exampleClock()
	for _, l := range [][]api.DropVisit{nil, {}} {
		expectLeft(t, setting{c, 10, l}, 3, spans(span(3, 4)), 0)
		expectStops(t, setting{c, 10, l}, 100, span(4, 5))
		expectWorst(t, setting{c, 10, l}, 100, nil)
		expectProves(t, c, l, 1, 10, false)
		expectForeverError(t, c, l, 1, api.ErrNone)
	}
}

func TestArgumentsAreNotChanged(t *testing.T) {
	for s := range settings(1, 200, many()) {
		hours, l := slices.Clone(s.clock.Hours), slices.Clone(s.visits)
		left, state, _ := drop.Left(s.clock, s.start, s.visits, 30)
		again := slices.Clone(left)
		for i := range left {
			left[i] = span(-1, -1)
		}
		expectLeft(t, s, 30, again, state)
		drop.Check(s.clock)
		drop.Rig(api.DropRig{Depth: 10, Days: 2, Pull: 3, Limit: 100, Hours: s.clock.Hours})
		drop.Goes(s.clock, s.start, 7)
		drop.Stops(s.clock, s.start, s.visits, 100)
		drop.Worst(s.clock, s.start, s.visits, 100)
		drop.Proves(s.clock, s.visits, 3, 0)
		drop.Forever(s.clock, s.visits, 3)
		if !slices.Equal(hours, s.clock.Hours) || !slices.Equal(l, s.visits) {
			t.Fatalf("%v: an argument was changed", s)
		}
	}
}
