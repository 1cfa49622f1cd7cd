package drop_test

import (
	"slices"
	"testing"

	"turret/api"
	"turret/drop"
)

// P2.7

func TestProves(t *testing.T) {
	for least := range 101 {
		expectProves(t, exampleClock(), exampleRound(), 1, least, least >= 11 && least <= 51)
	}
	expectProves(t, exampleClock(), exampleRound(), 2, 11, false)
}

func TestProvesEdges(t *testing.T) {
	// No visits.
	for _, days := range numbers(1, 2, 60) {
		for _, least := range numbers(0, 1, 100) {
			expectProves(t, even(100, 0), nil, days, least, true)
			expectProves(t, clock(100, with(each(span(0, 0)), 23, span(0, 1))), nil, days, least, false)
		}
	}
	// A visit in the last hour comes before its line is used.
	last := func(days, low, wind int) []api.DropVisit {
		return visits(visit(span(low, 24*days-1), span(wind, wind)))
	}
	for _, days := range numbers(1, 2, 60) {
		n := 24 * days
		expectProves(t, even(3000, 1), last(days, n-1, n), days, n-1, true)
		expectProves(t, even(3000, 1), last(days, n-1, n), days, n-2, false)
		expectProves(t, even(3000, 1), last(days, n-1, n-1), days, n, false)
		expectProves(t, even(3000, 1), last(days, n-1, n), days, 2999, true)
		expectProves(t, even(3000, 1), last(days, n-1, n), days, 3000, false)
		expectProves(t, even(3000, 1), last(days, 0, n), days, 3000-n, true)
		expectProves(t, even(3000, 1), last(days, 0, n), days, 3001-n, false)
	}
	// Just the least winding and the greatest use count.
	expectProves(t, clock(100, each(span(0, 1))), visits(visit(span(0, 5), span(24, 90))), 1, 5, true)
	expectProves(t, clock(100, each(span(0, 1))), visits(visit(span(0, 5), span(23, 90))), 1, 5, false)
	expectProves(t, clock(100, each(span(0, 1))), visits(visit(span(0, 5), span(24, 90))), 1, 4, false)
	// The number 0, and several visits in one hour.
	expectProves(t, even(24, 1), repeated(visit(span(0, 0), span(6, 6)), 4), 1, 0, true)
	expectProves(t, even(24, 1), repeated(visit(span(0, 0), span(6, 6)), 3), 1, 0, false)
	expectProves(t, even(23, 1), repeated(visit(span(0, 0), span(6, 6)), 4), 1, 0, false)
	expectProves(t, even(24, 1), repeated(visit(span(0, 0), span(6, 6)), 4), 1, 1, false)
}

// provesOf is Proves for all starts and all truths, integer by integer.
func provesOf(c api.DropClock, l []api.DropVisit, days, least int) bool {
	w := newWalk(c, l, least)
	for start := least; start <= c.Line; start++ {
		w.places[place{0, start}] = true
	}
	w.round(days)
	return !w.some && w.left()[0] >= least
}

// round goes on for a round of visits.
func (w *walk) round(days int) {
	for hour := range 24 * days {
		w.wind(hour)
		w.use(hour)
	}
}

// rounds yields random clocks and visits that often keep them going, and the days of their rounds.
func rounds(seed uint64, n int, visit func(s setting, days int)) {
	r := seeded(seed)
	for range n {
		days := 1 + r.IntN(2)
		visit(randomSetting(r, size{line: 80, visits: 4, hours: 24*days - 1, wind: 60, used: 2, wide: r.IntN(3)}), days)
	}
}

func TestProvesAgainstAllPlaces(t *testing.T) {
	r := seeded(12)
	proved := 0
	rounds(7, 250, func(s setting, days int) {
		for range 8 {
			least := r.IntN(s.clock.Line + 1)
			want := provesOf(s.clock, s.visits, days, least)
			expectProves(t, s.clock, s.visits, days, least, want)
			if want {
				proved++
			}
		}
	})
	if proved < 50 {
		t.Errorf("only %d of the test's rounds are proved", proved)
	}
}

// P2.8

func TestForever(t *testing.T) {
	expectForever(t, exampleClock(), exampleRound(), 1, 11)
	// Less than a day needs is wound.
	expectForeverError(t, exampleClock(), visits(visit(span(0, 5), span(48, 60))), 1, api.ErrNone)
	expectForeverError(t, exampleClock(), exampleRound(), 2, api.ErrNone)
	// The winding is enough, but the line is not.
	expectForever(t, clock(60, exampleClock().Hours), exampleRound(), 1, 11)
	expectForeverError(t, clock(59, exampleClock().Hours), exampleRound(), 1, api.ErrNone)
	expectForeverError(t, clock(10, exampleClock().Hours), exampleRound(), 1, api.ErrNone)
	// It goes from the top for a day, and never again.
	expectForeverError(t, even(100, 4), nil, 1, api.ErrNone)
	expectForeverError(t, even(96, 4), nil, 1, api.ErrNone)
	expectForeverError(t, even(95, 4), nil, 1, api.ErrNone)
}

func TestForeverEdges(t *testing.T) {
	// No visits, and nothing that is used.
	for _, days := range numbers(1, 60) {
		expectForever(t, even(1, 0), nil, days, 0)
		expectForever(t, even(3000, 0), nil, days, 0)
		expectForeverError(t, clock(3000, with(each(span(0, 0)), 23, span(0, 1))), nil, days, api.ErrNone)
	}
	for _, days := range numbers(1, 2, 60) {
		n := 24 * days
		for _, at := range spans(span(0, 0), span(n-1, n-1), span(0, n-1), span(0, 2)) {
			expectForever(t, even(3000, 1), visits(visit(at, span(n, n))), days, at.High)
			expectForever(t, even(n+at.High-at.Low, 1), visits(visit(at, span(n, 3000))), days, at.High)
			expectForeverError(t, even(3000, 1), visits(visit(at, span(n-1, n))), days, api.ErrNone)
			expectForeverError(t, even(n-1, 1), visits(visit(at, span(n, n))), days, api.ErrNone)
		}
	}
	// The least number can be Line.
	expectForever(t, clock(5, with(each(span(0, 0)), 7, span(5, 5))), visits(visit(span(8, 8), span(5, 5))), 1, 5)
	expectForeverError(t, clock(5, with(each(span(0, 0)), 7, span(5, 6))), visits(visit(span(8, 8), span(6, 6))), 1, api.ErrNone)
	// As many visits as are allowed, several in one hour among them.
	expectForever(t, even(3000, 1), repeated(visit(span(0, 1439), span(144, 144)), 10), 60, 1439)
	expectForever(t, even(2879, 1), repeated(visit(span(0, 1439), span(144, 300)), 10), 60, 1439)
	expectForeverError(t, even(2878, 1), repeated(visit(span(0, 1439), span(144, 300)), 10), 60, api.ErrNone)
	expectForeverError(t, even(3000, 1), repeated(visit(span(0, 1439), span(143, 144)), 10), 60, api.ErrNone)
	expectForever(t, even(48, 2), repeated(visit(span(3, 3), span(5, 5)), 10), 1, 6)
}

func TestForeverAgainstAllPlaces(t *testing.T) {
	found, none := 0, 0
	rounds(8, 120, func(s setting, days int) {
		least := 0
		for least <= s.clock.Line && !provesOf(s.clock, s.visits, days, least) {
			least++
		}
		if least > s.clock.Line {
			none++
			expectForeverError(t, s.clock, s.visits, days, api.ErrNone)
			return
		}
		found++
		expectForever(t, s.clock, s.visits, days, least)
	})
	if found < 15 || none < 15 {
		t.Errorf("the test's rounds: %d go for ever, and %d do not", found, none)
	}
}

// P2.12

func TestForeverNeverStops(t *testing.T) {
	checked := 0
	rounds(9, 300, func(s setting, days int) {
		least, e := drop.Forever(s.clock, s.visits, days)
		if e != api.OK {
			return
		}
		checked++
		expectProves(t, s.clock, s.visits, days, least, true)
		for fewer := range least {
			expectProves(t, s.clock, s.visits, days, fewer, false)
		}
		w := newWalk(s.clock, s.visits, least)
		for start := least; start <= s.clock.Line; start++ {
			w.places[place{0, start}] = true
		}
		for range 4 {
			w.round(days)
			w.again()
		}
		if w.some {
			t.Errorf("%v, round of %d days: it stops with %d", s, days, least)
		}
	})
	if checked < 30 {
		t.Errorf("only %d of the test's rounds go for ever", checked)
	}
}

// again comes to the beginning of the next round.
func (w *walk) again() {
	next := map[place]bool{}
	for p := range w.places {
		next[place{0, p.left}] = true
	}
	w.places = next
}

// One round after another is also a list of visits.
func TestForeverAsVisits(t *testing.T) {
	rounds(10, 200, func(s setting, days int) {
		least, e := drop.Forever(s.clock, s.visits, days)
		if e != api.OK || len(s.visits) == 0 {
			return
		}
		var l []api.DropVisit
		times := 10 / len(s.visits)
		for n := range times {
			for _, v := range s.visits {
				v.At.Low, v.At.High = v.At.Low+24*days*n, v.At.High+24*days*n
				l = append(l, v)
			}
		}
		end := 24 * days * times
		for _, start := range numbers(least, (least+s.clock.Line)/2, s.clock.Line) {
			expectStops(t, setting{s.clock, start, l}, end, span(end, end))
			left, state, _ := drop.Left(s.clock, start, l, end)
			if below := func(x api.Span) bool { return x.Low < least }; state != 0 || slices.ContainsFunc(left, below) {
				t.Errorf("%v: %v, %d are left after %d rounds; want %d or more", s, left, state, times, least)
			}
		}
	})
}
