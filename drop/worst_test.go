package drop_test

import (
	"slices"
	"testing"

	"turret/api"
	"turret/drop"
)

// P2.6

func TestWorst(t *testing.T) {
	expectWorst(t, setting{exampleClock(), 10, exampleVisits()}, 100, nil)
	expectWorst(t, setting{exampleClock(), 10, exampleVisits()}, 5, nil)
	expectWorstError(t, setting{exampleClock(), 10, exampleVisits()}, 4, api.ErrNone)
	// Who must come comes, in the hour of the stop as well.
	expectWorst(t, setting{exampleClock(), 10, visits(visit(span(3, 3), span(5, 5)))}, 100, numbers(3))
	expectWorst(t, setting{exampleClock(), 10, visits(visit(span(4, 4), span(0, 5)))}, 100, numbers(4))
	expectWorst(t, setting{exampleClock(), 10, visits(visit(span(2, 4), span(0, 5)))}, 100, numbers(2))
	expectWorst(t, setting{exampleClock(), 10, visits(visit(span(2, 5), span(0, 5)))}, 100, nil)
	expectWorst(t, setting{exampleClock(), 10, visits(visit(span(4, 4), span(0, 5)), visit(span(4, 5), span(3, 3)))}, 100, numbers(4))
	expectWorst(t, setting{exampleClock(), 10, nil}, 100, nil)
}

func TestWorstOfEarlyVisits(t *testing.T) {
	// Who comes early winds little, as the weight is soon at the top: 10 are left in the hour 0, 9 after it.
	early := even(10, 1)
	expectWorst(t, setting{early, 10, visits(visit(span(0, 5), span(9, 9)))}, 100, numbers(0))
	expectWorst(t, setting{early, 10, visits(visit(span(2, 5), span(9, 9)))}, 100, numbers(2))
	expectWorst(t, setting{early, 10, visits(visit(span(2, 10), span(9, 9)))}, 100, numbers(2))
	// But who can come after the stop comes not at all.
	expectWorst(t, setting{early, 10, visits(visit(span(2, 11), span(9, 9)))}, 100, nil)
	expectWorst(t, setting{early, 9, visits(visit(span(2, 9), span(9, 9)))}, 100, numbers(2))
	// Two who come at once can wind less than one after the other, and the smallest hours count.
	expectWorst(t, setting{early, 10, repeated(visit(span(0, 5), span(9, 9)), 2)}, 100, numbers(0, 0))
	expectWorst(t, setting{early, 10, repeated(visit(span(0, 5), span(2, 9)), 2)}, 100, numbers(0, 0))
	// The second one must not come late: the first hours are not the least ones that are possible.
	expectWorst(t, setting{early, 5, visits(visit(span(1, 4), span(3, 3)), visit(span(1, 4), span(3, 3)))}, 100, numbers(1, 1))
	expectWorst(t, setting{early, 8, visits(visit(span(0, 3), span(4, 4)), visit(span(0, 3), span(4, 4)))}, 100, numbers(0, 0))
	expectWorst(t, setting{early, 0, visits(visit(span(0, 0), span(5, 5)), visit(span(0, 4), span(8, 8)))}, 100, numbers(0, 0))
}

func TestWorstWindsLittleAndUsesMuch(t *testing.T) {
	c := clock(20, each(span(0, 2)))
	expectWorst(t, setting{c, 4, visits(visit(span(1, 1), span(4, 20)))}, 100, numbers(1))
	expectWorst(t, setting{c, 4, visits(visit(span(1, 2), span(4, 20)))}, 100, numbers(1))
	expectWorst(t, setting{c, 4, visits(visit(span(1, 3), span(4, 20)))}, 100, nil)
	expectWorst(t, setting{c, 4, visits(visit(span(1, 1), span(4, 20)))}, 5, numbers(1))
	expectWorstError(t, setting{c, 4, visits(visit(span(1, 1), span(4, 20)))}, 4, api.ErrNone)
}

func TestWorstEdges(t *testing.T) {
	// Nothing is before the hour 0.
	expectWorstError(t, setting{even(10, 1), 0, nil}, 0, api.ErrNone)
	expectWorst(t, setting{even(10, 1), 0, nil}, 1, nil)
	expectWorst(t, setting{even(10, 11), 10, repeated(visit(span(0, 0), span(5, 5)), 10)}, 2000, slices.Repeat(numbers(0), 10))
	expectWorstError(t, setting{even(10, 0), 10, nil}, 2000, api.ErrNone)
	expectWorstError(t, setting{even(2000, 1), 2000, nil}, 2000, api.ErrNone)
	expectWorst(t, setting{even(2000, 1), 1999, nil}, 2000, nil)
	expectWorst(t, setting{even(2000, 1), 1999, visits(visit(span(2000, 2000), span(1, 1)))}, 2000, nil)
	expectWorst(t, setting{even(2000, 1), 1998, visits(visit(span(1999, 1999), span(0, 1)))}, 2000, nil)
	expectWorst(t, setting{even(2000, 1), 1999, visits(visit(span(1999, 1999), span(0, 1)))}, 2000, numbers(1999))
	// As many visits as are allowed, each in an hour of its own.
	var l []api.DropVisit
	var hours []int
	for n := range 10 {
		hours = append(hours, 100*n+99)
		l = append(l, visit(span(100*n+99, 100*n+99), span(100, 100)))
	}
	expectWorst(t, setting{even(100, 1), 100, l}, 2000, hours)
}

// worstOf returns the first hour in which the clock can stop, and the smallest list of those with which it does, from all schedules.
func worstOf(s setting, until int) (first int, list []int) {
	c, l := harshest(s.clock, s.visits)
	h := history{}
	for _, v := range l {
		h.wound = append(h.wound, v.Wind.Low)
	}
	for hour := range until {
		h.used = append(h.used, c.Hours[hour%24].High)
	}
	first = until
	for came := range schedules(l) {
		h.came = came
		_, stop := play(c, s.start, h)
		late := func(at int) bool { return at > stop }
		before := slices.DeleteFunc(slices.Clone(came), late)
		if stop < first || stop == first && slices.Compare(before, list) < 0 {
			first, list = stop, before
		}
	}
	return first, list
}

func expectWorstOf(t *testing.T, s setting, until int) {
	t.Helper()
	first, list := worstOf(s, until)
	if first == until {
		expectWorstError(t, s, until, api.ErrNone)
		return
	}
	expectWorst(t, s, until, list)
	if stops, e := drop.Stops(s.clock, s.start, s.visits, until); e != api.OK || stops.Low != first {
		t.Errorf("Stops(%v, %d) = %v, %v; want the first hour %d", s, until, stops, e, first)
	}
}

// P2.10

func TestWorstAgainstAllSchedules(t *testing.T) {
	for s := range settings(10, 600, few()) {
		for until := range 7 {
			expectWorstOf(t, s, until)
		}
	}
	r := seeded(20)
	for s := range settings(20, 2000, size{line: 30, visits: 3, hours: 25, wind: 25, used: 2, wide: 1}) {
		expectWorstOf(t, s, r.IntN(90))
	}
	for s := range settings(21, 1000, size{line: 12, visits: 4, hours: 12, wind: 10, used: 1, wide: 1}) {
		expectWorstOf(t, s, r.IntN(60))
	}
}
