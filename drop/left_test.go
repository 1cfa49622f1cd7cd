package drop_test

import (
	"slices"
	"testing"

	"turret/api"
	"turret/drop"
)

// P2.4

func TestLeft(t *testing.T) {
	example := setting{exampleClock(), 10, exampleVisits()}
	expectLeft(t, example, 0, spans(span(10, 10)), 0)
	expectLeft(t, example, 1, spans(span(7, 8)), 0)
	expectLeft(t, example, 3, spans(span(3, 4), span(8, 9)), 0)
	expectLeft(t, example, 4, spans(span(1, 2), span(6, 7)), 0)
	expectLeft(t, example, 5, spans(span(0, 0), span(4, 5)), 1)
	// Who waits for the hour 6 lets the clock stop in the hour 5.
	expectLeft(t, example, 6, spans(span(2, 3)), 1)
	expectLeft(t, example, 7, spans(span(0, 1)), 1)
	expectLeft(t, example, 8, nil, 2)
	expectLeft(t, example, 2000, nil, 2)
}

func TestLeftStart(t *testing.T) {
	for _, start := range numbers(0, 1, 50, 99, 100) {
		expectLeft(t, setting{exampleClock(), start, nil}, 0, spans(span(start, start)), 0)
	}
	// A visit in the hour 0.
	l := visits(visit(span(0, 0), span(5, 7)))
	expectLeft(t, setting{exampleClock(), 0, l}, 0, spans(span(5, 7)), 0)
	expectLeft(t, setting{exampleClock(), 0, l}, 1, spans(span(2, 5)), 0)
	expectLeft(t, setting{exampleClock(), 94, l}, 0, spans(span(99, 100)), 0)
	expectLeft(t, setting{exampleClock(), 100, l}, 0, spans(span(100, 100)), 0)
	// A clock that stops in the hour 0 has not stopped before it.
	expectLeft(t, setting{exampleClock(), 0, nil}, 0, spans(span(0, 0)), 0)
	expectLeft(t, setting{exampleClock(), 0, nil}, 1, nil, 2)
	expectLeft(t, setting{exampleClock(), 2, nil}, 1, spans(span(0, 0)), 1)
	expectLeft(t, setting{clock(10, each(span(0, 20))), 10, nil}, 1, spans(span(0, 10)), 1)
}

func TestLeftLastHour(t *testing.T) {
	resting := even(100, 0)
	expectLeft(t, setting{resting, 0, nil}, 2000, spans(span(0, 0)), 0)
	expectLeft(t, setting{resting, 100, nil}, 2000, spans(span(100, 100)), 0)
	expectLeft(t, setting{resting, 7, visits(visit(span(2000, 2000), span(3, 4)))}, 1999, spans(span(7, 7)), 0)
	expectLeft(t, setting{resting, 7, visits(visit(span(2000, 2000), span(3, 4)))}, 2000, spans(span(10, 11)), 0)
	expectLeft(t, setting{resting, 7, visits(visit(span(0, 2000), span(3, 4)))}, 2000, spans(span(10, 11)), 0)
	expectLeft(t, setting{resting, 7, visits(visit(span(0, 2000), span(3, 4)))}, 1999, spans(span(7, 7), span(10, 11)), 0)
	expectLeft(t, setting{even(3000, 1), 2100, repeated(visit(span(2000, 2000), span(0, 3000)), 10)}, 2000, spans(span(100, 3000)), 0)
}

func TestLeftJoinsSpans(t *testing.T) {
	resting := even(100, 0)
	at := span(0, 5)
	expectLeft(t, setting{resting, 10, visits(visit(at, span(1, 1)))}, 0, spans(span(10, 11)), 0)
	expectLeft(t, setting{resting, 10, visits(visit(at, span(2, 2)))}, 0, spans(span(10, 10), span(12, 12)), 0)
	expectLeft(t, setting{resting, 10, visits(visit(at, span(1, 3)))}, 0, spans(span(10, 13)), 0)
	expectLeft(t, setting{resting, 10, visits(visit(at, span(0, 0)))}, 0, spans(span(10, 10)), 0)
	expectLeft(t, setting{resting, 10, repeated(visit(at, span(2, 2)), 3)}, 3, spans(span(10, 10), span(12, 12), span(14, 14), span(16, 16)), 0)
	expectLeft(t, setting{resting, 10, repeated(visit(at, span(2, 2)), 3)}, 5, spans(span(16, 16)), 0)
	expectLeft(t, setting{resting, 10, visits(visit(at, span(5, 6)), visit(at, span(1, 2)))}, 3, spans(span(10, 10), span(15, 18)), 0)
	// What is used joins spans as well.
	expectLeft(t, setting{clock(100, each(span(0, 3))), 10, visits(visit(span(0, 1), span(4, 4)))}, 0, spans(span(10, 10), span(14, 14)), 0)
	expectLeft(t, setting{clock(100, each(span(0, 3))), 10, visits(visit(span(0, 1), span(4, 4)))}, 1, spans(span(11, 14)), 0)
}

func TestLeftSeveralVisits(t *testing.T) {
	// All in one hour, and the weight can be at the top before the last one.
	l := repeated(visit(span(3, 3), span(4, 5)), 10)
	expectLeft(t, setting{even(1000, 2), 20, l}, 2, spans(span(16, 16)), 0)
	expectLeft(t, setting{even(1000, 2), 20, l}, 3, spans(span(54, 64)), 0)
	expectLeft(t, setting{even(60, 2), 20, l}, 3, spans(span(54, 60)), 0)
	expectLeft(t, setting{even(50, 2), 20, l}, 3, spans(span(50, 50)), 0)
	// Who must come first can come last.
	l = visits(visit(span(0, 1), span(20, 20)), visit(span(1, 2), span(7, 7)))
	expectLeft(t, setting{even(30, 5), 20, l}, 0, spans(span(20, 20), span(30, 30)), 0)
	expectLeft(t, setting{even(30, 5), 20, l}, 1, spans(span(25, 25), span(30, 30)), 0)
	expectLeft(t, setting{even(30, 5), 20, l}, 2, spans(span(25, 25), span(27, 27), span(30, 30)), 0)
	// The second one can come first, but the order stays.
	l = visits(visit(span(1, 2), span(10, 10)), visit(span(1, 2), span(1, 1)))
	expectLeft(t, setting{even(30, 0), 5, l}, 1, spans(span(5, 5), span(15, 16)), 0)
	expectLeft(t, setting{even(30, 0), 5, l}, 2, spans(span(16, 16)), 0)
}

// P2.9, P2.10

func TestLeftIsWhatTruthsLeave(t *testing.T) {
	for s := range settings(4, 60, few()) {
		until := 5
		states, lists := truthsOf(s, until)
		for hour := range until + 1 {
			expectLeft(t, s, hour, spansOf(lists[hour]), states[hour])
		}
	}
}

// truthsOf returns, for each hour, in how many of the truths the clock has stopped before it, and what can be left.
func truthsOf(s setting, until int) (states []int, lists [][]int) {
	lists, states = make([][]int, until+1), make([]int, until+1)
	for h := range histories(s.clock, s.visits, until) {
		left, _ := play(s.clock, s.start, h)
		for hour := range until + 1 {
			if hour < len(left) {
				lists[hour] = append(lists[hour], left[hour])
			} else {
				states[hour] = 1
			}
		}
	}
	for hour := range lists {
		if len(lists[hour]) == 0 {
			states[hour] = 2
		}
		slices.Sort(lists[hour])
		lists[hour] = slices.Compact(lists[hour])
	}
	return states, lists
}

func TestLeftAgainstAllPlaces(t *testing.T) {
	for s := range settings(7, 200, many()) {
		w := newWalk(s.clock, s.visits, s.start)
		for hour := range 80 {
			w.wind(hour)
			expectLeft(t, s, hour, spansOf(w.left()), w.state())
			w.use(hour)
		}
	}
}

func TestTruthsLieInLeftAndStops(t *testing.T) {
	r := seeded(9)
	for s := range settings(9, 100, size{line: 3000, visits: 10, hours: 150, wind: 1500, used: 40, wide: 300}) {
		stops, e := drop.Stops(s.clock, s.start, s.visits, 160)
		if e != api.OK {
			t.Fatal(s, e)
		}
		for range 10 {
			h := history{used: make([]int, 160)}
			now := 0
			for _, v := range s.visits {
				now = max(now, v.At.Low)
				now += r.IntN(v.At.High - now + 1)
				h.came, h.wound = append(h.came, now), append(h.wound, v.Wind.Low+r.IntN(v.Wind.High-v.Wind.Low+1))
			}
			for hour := range h.used {
				used := s.clock.Hours[hour%24]
				h.used[hour] = used.Low + r.IntN(used.High-used.Low+1)
			}
			expectTruth(t, s, h, stops)
		}
	}
}

// expectTruth fails unless what is left in a truth, and its stop, lie in the spans.
func expectTruth(t *testing.T, s setting, h history, stops api.Span) {
	t.Helper()
	left, stop := play(s.clock, s.start, h)
	if stop < stops.Low || stop > stops.High {
		t.Errorf("%v: a truth stops in %d, and Stops is %v", s, stop, stops)
	}
	for hour, n := range left {
		if hour%7 != 0 && hour != stop {
			continue
		}
		list, _, e := drop.Left(s.clock, s.start, s.visits, hour)
		in := func(x api.Span) bool { return x.Low <= n && n <= x.High }
		if e != api.OK || !slices.ContainsFunc(list, in) {
			t.Errorf("%v: a truth leaves %d in the hour %d, and Left is %v, %v", s, n, hour, list, e)
		}
	}
}

// P1: the greatest arguments are done in good time.

func TestGreatestRounds(t *testing.T) {
	for _, c := range []api.DropClock{even(3000, 2), clock(3000, each(span(0, 3000))), clock(2999, with(each(span(2, 2)), 5, span(0, 2)))} {
		for _, wind := range spans(span(0, 0), span(2, 2), span(301, 301), span(0, 3000)) {
			checkNoError(t, setting{c, c.Line, repeated(visit(span(0, 2000), wind), 10)}, 2000)
			checkNoError(t, setting{c, c.Line, repeated(visit(span(0, 1000), wind), 10)}, 2000)
			l := repeated(visit(span(0, 1439), wind), 10)
			if _, e := drop.Proves(c, l, 60, 0); e != api.OK {
				t.Error(e)
			}
			if _, e := drop.Forever(c, l, 60); e != api.OK && e != api.ErrNone {
				t.Error(e)
			}
		}
	}
}
