package rate_test

import (
	"math/rand/v2"
	"testing"

	"turret/api"
	"turret/rate"
)

// fewestOr7 is Fewest, or 7 if six visits are not enough.
func fewestOr7(t *testing.T, r api.RateRules, s api.RateState) int {
	t.Helper()
	n, e := rate.Fewest(r, s)
	if e == api.ErrNone {
		return 7
	}
	if e != api.OK {
		t.Fatalf("Fewest(%v, %v): the error %v", r, s, e)
	}
	return n
}

// anyOf returns a number of a span, often one of its ends.
func anyOf(x *rand.Rand, s api.Span) int {
	switch x.IntN(4) {
	case 0:
		return s.Low
	case 1:
		return s.High
	}
	return s.Low + x.IntN(s.High-s.Low+1)
}

// visit does what Act says to a clock whose rate is truly this one, and returns its rate and what is known then.
func visit(t *testing.T, x *rand.Rand, r api.RateRules, s api.RateState, truth int) (int, api.RateState) {
	t.Helper()
	a, e := rate.Act(r, s)
	if e != api.OK {
		t.Fatalf("Act(%v, %v): the error %v", r, s, e)
	}
	gain := imageOf(r, state(0, 0, s.Used...), a)
	truth += anyOf(x, gain)
	seen := truth + anyOf(x, span(-r.Error, r.Error))
	next, e := rate.After(r, s, a, seen)
	if e != api.OK || truth < next.Rate.Low || truth > next.Rate.High {
		t.Fatalf("After(%v, %v, %v, %d) = %v, %v; the rate is %d", r, s, a, seen, next, e, truth)
	}
	return truth, next
}

// regulate visits a clock as often as Fewest says at first, or until its rate is good.
func regulate(t *testing.T, x *rand.Rand, r api.RateRules, s api.RateState) {
	t.Helper()
	first, visits := s, fewestOr7(t, r, s)
	truth := anyOf(x, s.Rate)
	for n := visits; n > 0; n-- {
		if left := fewestOr7(t, r, s); left > n {
			t.Fatalf("%v: with %d visits left, %d are needed in the state %v", r, n, left, s)
		} else if left == 0 {
			break
		}
		truth, s = visit(t, x, r, s, truth)
	}
	if s.Rate.Low < -r.Limit || s.Rate.High > r.Limit || truth < -r.Limit || truth > r.Limit {
		t.Fatalf("%v: after %d visits from %v the rate is known as %v, and is %d", r, visits, first, s, truth)
	}
}

// P7.7

func TestRegulated(t *testing.T) {
	x := seeded(20)
	needed := map[int]int{}
	for r, s := range steadyCases(19, 600, 40, 12) {
		visits := fewestOr7(t, r, s)
		needed[visits]++
		if visits == 7 {
			continue
		}
		for range 12 {
			regulate(t, x, r, s)
		}
	}
	for n := range 7 {
		if needed[n] < 5 {
			t.Errorf("only %d clocks of the test need %d visits", needed[n], n)
		}
	}
}

func TestRegulatedWithLargeRules(t *testing.T) {
	x := seeded(21)
	for r, s := range hardest() {
		for range 30 {
			regulate(t, x, r, s)
		}
	}
	regulated := 0
	for range 500 {
		r := randomRules(x, size{60, 50, 60, 10, 3})
		s := randomState(x, r, 300)
		if fewestOr7(t, r, s) == 7 {
			continue
		}
		regulated++
		for range 5 {
			regulate(t, x, r, s)
		}
	}
	if regulated < 100 {
		t.Errorf("only %d of the test's clocks can be regulated", regulated)
	}
}

// Whatever can be seen after what Act says: one visit less is enough then.
func TestWhateverIsSeen(t *testing.T) {
	for r, s := range steadyCases(22, 400, 40, 12) {
		visits := fewestOr7(t, r, s)
		if visits == 0 || visits == 7 {
			continue
		}
		a, e := rate.Act(r, s)
		if e != api.OK {
			t.Fatalf("Act(%v, %v): the error %v", r, s, e)
		}
		for seen := range seenAfter(r, s, a) {
			next, e := rate.After(r, s, a, seen)
			if n := fewestOr7(t, r, next); e != api.OK || n > visits-1 {
				t.Fatalf("%v: after %v in the state %v and %d seen, %d visits are needed; %v", r, a, s, seen, n, e)
			}
		}
	}
}

// P7.8

// expectNoFewer fails unless after each allowed act something can be seen after which one visit less is needed.
func expectNoFewer(t *testing.T, r api.RateRules, s api.RateState) {
	t.Helper()
	visits := fewestOr7(t, r, s)
	for _, a := range allowedActs(r, s) {
		most := 0
		for seen := range seenAfter(r, s, a) {
			next, e := rate.After(r, s, a, seen)
			if e != api.OK {
				t.Fatalf("After(%v, %v, %v, %d): the error %v", r, s, a, seen, e)
			}
			if most = max(most, fewestOr7(t, r, next)); most >= visits-1 {
				break
			}
		}
		if most < visits-1 {
			t.Fatalf("%v: %d visits are needed from %v, but after %v no more than %d", r, visits, s, a, most)
		}
	}
}

func TestNoFewer(t *testing.T) {
	for r, s := range steadyCases(23, 250, 40, 12) {
		expectNoFewer(t, r, s)
	}
	for r, s := range someCases(24, 60, small(), 30) {
		expectNoFewer(t, r, s)
	}
	for r, s := range hardest() {
		if s.Rate.High == 300 {
			expectNoFewer(t, r, s)
		}
	}
	for _, n := range numbers(-60, -33, 5, 59, 60) {
		expectNoFewer(t, steps(10), state(n, n))
	}
}
