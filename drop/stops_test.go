package drop_test

import (
	"testing"

	"turret/api"
	"turret/drop"
)

// P2.3

func TestGoes(t *testing.T) {
	expectGoes(t, exampleClock(), 10, 0, span(4, 5))
	expectGoes(t, exampleClock(), 10, 1, span(6, 6))
	expectGoes(t, exampleClock(), 10, 24, span(28, 29))
	expectGoes(t, exampleClock(), 10, 25, span(30, 30))
	// The examples 3 and 6 of the whole document.
	expectGoes(t, even(96, 2), 96, 0, span(48, 48))
	expectGoes(t, striker(400), 400, 0, span(32, 32))
	// What is used is as much as is left, or more.
	expectGoes(t, even(10, 5), 10, 0, span(2, 2))
	expectGoes(t, even(10, 5), 9, 0, span(1, 1))
	expectGoes(t, even(10, 11), 10, 3, span(3, 3))
	// The line can be used up at once, or never.
	expectGoes(t, clock(10, each(span(0, 11))), 10, 5, span(5, 2000))
	expectGoes(t, clock(10, each(span(0, 10))), 10, 5, span(6, 2000))
}

// striker is a clock that strikes the hours, and uses 2 for each blow.
func striker(line int) api.DropClock {
	hours := each(span(24, 24))
	for h := range hours {
		if h%12 != 0 {
			hours[h] = span(2*(h%12), 2*(h%12))
		}
	}
	return clock(line, hours)
}

func TestGoesEdges(t *testing.T) {
	// A start of 0.
	expectGoes(t, exampleClock(), 0, 0, span(0, 0))
	expectGoes(t, exampleClock(), 0, 1999, span(1999, 1999))
	expectGoes(t, even(10, 0), 0, 0, span(2000, 2000))
	expectGoes(t, clock(10, with(each(span(0, 0)), 23, span(1, 1))), 0, 0, span(23, 23))
	expectGoes(t, clock(10, with(each(span(0, 0)), 23, span(0, 1))), 0, 24, span(47, 2000))
	// The last hour stands for all later ones.
	expectGoes(t, exampleClock(), 0, 2000, span(2000, 2000))
	expectGoes(t, exampleClock(), 100, 2000, span(2000, 2000))
	expectGoes(t, exampleClock(), 100, 1990, span(2000, 2000))
	expectGoes(t, even(3000, 1), 1999, 0, span(1999, 1999))
	expectGoes(t, even(3000, 1), 2000, 0, span(2000, 2000))
	expectGoes(t, even(3000, 1), 2001, 0, span(2000, 2000))
	expectGoes(t, clock(3000, each(span(1, 2))), 3000, 0, span(1500, 2000))
	expectGoes(t, even(3000, 1500), 3000, 1998, span(2000, 2000))
	expectGoes(t, even(3000, 1501), 3000, 1998, span(1999, 1999))
}

func TestGoesAgainstAllPlaces(t *testing.T) {
	r := seeded(3)
	for s := range settings(3, 300, many()) {
		from := r.IntN(50)
		w := newWalk(s.clock, nil, s.start)
		want := span(2000, 2000)
		for hour := from; hour < 2000 && len(w.places) > 0; hour++ {
			w.use(hour)
			if w.some {
				want.Low = min(want.Low, hour)
			}
			if len(w.places) == 0 {
				want.High = hour
			}
		}
		expectGoes(t, s.clock, s.start, from, want)
		if from == 0 {
			expectStops(t, setting{s.clock, s.start, nil}, 2000, want)
		}
	}
}

// P2.5

func TestStops(t *testing.T) {
	example := setting{exampleClock(), 10, exampleVisits()}
	expectStops(t, example, 100, span(4, 7))
	expectStops(t, example, 8, span(4, 7))
	// No truth goes on after the hour 7, so 7 is known and not a stand-in only from 8 on.
	expectStops(t, example, 7, span(4, 7))
	expectStops(t, example, 6, span(4, 6))
	expectStops(t, example, 5, span(4, 5))
	expectStops(t, example, 4, span(4, 4))
	expectStops(t, example, 1, span(1, 1))
	expectStops(t, example, 0, span(0, 0))
	expectStops(t, setting{exampleClock(), 10, nil}, 100, span(4, 5))
}

func TestStopsEdges(t *testing.T) {
	// A start of 0 and of Line.
	expectStops(t, setting{even(10, 1), 0, nil}, 2000, span(0, 0))
	expectStops(t, setting{even(10, 1), 10, nil}, 2000, span(10, 10))
	expectStops(t, setting{even(10, 0), 0, nil}, 2000, span(2000, 2000))
	expectStops(t, setting{even(10, 1), 0, nil}, 0, span(0, 0))
	// Who comes in an hour winds before its line is used.
	expectStops(t, setting{even(10, 1), 0, visits(visit(span(0, 0), span(1, 1)))}, 2000, span(1, 1))
	expectStops(t, setting{even(10, 1), 0, visits(visit(span(0, 1), span(1, 1)))}, 2000, span(0, 1))
	expectStops(t, setting{even(10, 1), 9, visits(visit(span(0, 0), span(5, 5)))}, 2000, span(10, 10))
	expectStops(t, setting{even(10, 1), 9, visits(visit(span(0, 1), span(5, 5)))}, 2000, span(10, 11))
	// Several visits in an hour.
	l := repeated(visit(span(4, 4), span(2, 3)), 10)
	expectStops(t, setting{even(100, 5), 20, l}, 100, span(8, 10))
	expectStops(t, setting{even(100, 5), 19, l}, 100, span(3, 3))
	// A clock that stopped is not wound any more.
	expectStops(t, setting{even(100, 5), 19, repeated(visit(span(4, 20), span(100, 100)), 10)}, 100, span(3, 3))
	// Visits in the last hour come before its stop, and a visit after until does not matter.
	expectStops(t, setting{even(2000, 1), 1999, visits(visit(span(1999, 1999), span(1, 1)))}, 2000, span(2000, 2000))
	expectStops(t, setting{even(2000, 1), 1999, visits(visit(span(1999, 2000), span(1, 1)))}, 2000, span(1999, 2000))
	expectStops(t, setting{even(2000, 1), 1999, visits(visit(span(2000, 2000), span(1, 1)))}, 2000, span(1999, 1999))
}

func TestStopsAgainstAllTruths(t *testing.T) {
	for s := range settings(5, 60, few()) {
		for until := range 6 {
			want := span(until, 0)
			for h := range histories(s.clock, s.visits, until) {
				_, stop := play(s.clock, s.start, h)
				want = span(min(want.Low, stop), max(want.High, stop))
			}
			expectStops(t, s, until, want)
		}
	}
}

func TestStopsAgainstAllPlaces(t *testing.T) {
	r := seeded(6)
	for s := range settings(6, 300, many()) {
		until := r.IntN(90)
		expectStops(t, s, until, newWalk(s.clock, s.visits, s.start).stops(until))
	}
}

// P2.11

func TestMoreLineStopsNoEarlier(t *testing.T) {
	r := seeded(11)
	for s := range settings(11, 600, many()) {
		stops := stopsOf(t, s)
		for range 4 {
			if more := stopsOf(t, better(s, r.IntN(4), r.IntN(24), 1+r.IntN(3))); more.Low < stops.Low || more.High < stops.High {
				t.Errorf("%v stops in %v, and with more line in %v", s, stops, more)
			}
		}
	}
}

func stopsOf(t *testing.T, s setting) api.Span {
	t.Helper()
	stops, e := drop.Stops(s.clock, s.start, s.visits, 200)
	if e != api.OK || stops.Low > stops.High || stops.Low < 0 || stops.High > 200 {
		t.Fatalf("Stops(%v) = %v, %v", s, stops, e)
	}
	return stops
}

// better returns a setting with more at the start, less use in an hour of the day, or more winding at a visit.
func better(s setting, way, at, by int) setting {
	switch {
	case way == 0:
		s.start = min(s.clock.Line, s.start+by)
	case way == 1 || len(s.visits) == 0:
		used := s.clock.Hours[at]
		s.clock.Hours = with(s.clock.Hours, at, span(max(0, used.Low-by), max(0, used.High-by)))
	default:
		i := at % len(s.visits)
		l := append(visits(), s.visits...)
		l[i].Wind.Low, l[i].Wind.High = l[i].Wind.Low+by, l[i].Wind.High+by
		s.visits = l
	}
	return s
}
