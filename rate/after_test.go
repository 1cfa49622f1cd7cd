package rate_test

import (
	"math"
	"testing"

	"turret/api"
)

// P7.2

func TestAfter(t *testing.T) {
	s := state(8, 18, false)
	expectAfter(t, example(), s, turns(-2), 3, state(2, 2, false))
	expectAfterError(t, example(), s, turns(-2), 4, api.ErrState)
	expectAfter(t, example(), s, turns(-2), 2, state(1, 2, false))
	expectAfter(t, example(), s, turns(-2), 1, state(0, 2, false))
	expectAfter(t, example(), s, turns(-2), -5, state(-6, -4, false))
	expectAfter(t, example(), s, turns(-2), -12, state(-12, -11, false))
	expectAfter(t, example(), s, turns(-2), -13, state(-12, -12, false))
	expectAfterError(t, example(), s, turns(-2), -14, api.ErrState)
	expectAfter(t, example(), state(-6, -4, false), weight(0), 0, state(-1, 1, true))
	expectAfter(t, example(), state(8, 10, false), turns(-1), 0, state(-1, 1, false))
	// Forward the ends of Turn are the other way round.
	expectAfter(t, example(), s, turns(2), 23, state(24, 24, false))
	expectAfter(t, example(), s, turns(2), 39, state(38, 38, false))
	expectAfterError(t, example(), s, turns(2), 22, api.ErrState)
	expectAfterError(t, example(), s, turns(2), 40, api.ErrState)
	// Nothing is done but observed.
	expectAfter(t, example(), s, turns(0), 9, state(8, 10, false))
	expectAfter(t, example(), state(8, 18, true), turns(0), 18, state(17, 18, true))
	// An exact observation leaves one rate, a vague one all of them.
	exact, vague := example(), example()
	exact.Error, vague.Error = 0, 50
	expectAfter(t, exact, s, turns(0), 9, state(9, 9, false))
	expectAfterError(t, exact, s, turns(0), 7, api.ErrState)
	expectAfterError(t, exact, s, turns(0), 19, api.ErrState)
	for seen := -32; seen <= 58; seen++ {
		expectAfter(t, vague, s, turns(0), seen, state(8, 18, false))
	}
	expectAfter(t, vague, s, turns(0), -33, state(8, 17, false))
	expectAfter(t, vague, s, turns(0), -42, state(8, 8, false))
	expectAfterError(t, vague, s, turns(0), -43, api.ErrState)
	expectAfter(t, vague, s, turns(0), 59, state(9, 18, false))
	expectAfter(t, vague, s, turns(0), 68, state(18, 18, false))
	expectAfterError(t, vague, s, turns(0), 69, api.ErrState)
}

func TestAfterAWeight(t *testing.T) {
	r := rules(5, 1, span(8, 10), 3, span(4, 6), span(10, 20), span(1, 1))
	for _, used := range allUsed(3) {
		s := state(-9, -3, used...)
		for n := range 3 {
			if used[n] {
				expectAfterError(t, r, s, weight(n), 0, api.ErrRange)
				continue
			}
			more := append([]bool(nil), used...)
			more[n] = true
			low := -9 + r.Weights[n].Low
			high := -3 + r.Weights[n].High
			expectAfter(t, r, s, weight(n), low-1, state(low, low, more...))
			expectAfter(t, r, s, weight(n), high+1, state(high, high, more...))
			expectAfter(t, r, s, weight(n), low+1, state(low, low+2, more...))
			expectAfterError(t, r, s, weight(n), low-2, api.ErrState)
			expectAfterError(t, r, s, weight(n), high+2, api.ErrState)
		}
	}
}

// An act that is not allowed is an error, whatever is seen.
func TestActsThatAreNotAllowed(t *testing.T) {
	refused := func(r api.RateRules, s api.RateState, acts ...api.RateAct) {
		t.Helper()
		for _, a := range acts {
			for _, seen := range append(wild(), -1, 0, 1, s.Rate.Low, s.Rate.High, 300) {
				expectAfterError(t, r, s, a, seen, api.ErrRange)
			}
		}
	}
	s := state(0, 2, false)
	expectAfter(t, example(), s, turns(3), 26, state(25, 27, false))
	expectAfter(t, example(), s, turns(-3), -26, state(-27, -25, false))
	refused(example(), s, turns(4), turns(-4), turns(10), turns(-10), turns(100))
	refused(example(), s, weight(1), weight(2), weight(3), weight(-2), weight(-3), weight(100))
	refused(example(), s, api.RateAct{Turns: 1, Weight: 0}, api.RateAct{Turns: -1, Weight: 0}, api.RateAct{Turns: 1, Weight: 1}, api.RateAct{Turns: 1, Weight: -2}, api.RateAct{Turns: 0, Weight: -2})
	refused(example(), state(0, 2, true), weight(0), api.RateAct{Turns: 3, Weight: 0})
	bare := rules(5, 1, span(8, 10), 0)
	expectAfter(t, bare, state(0, 2), turns(0), 1, state(0, 2))
	refused(bare, state(0, 2), turns(1), turns(-1), weight(0), weight(1), api.RateAct{})
	for _, n := range wild() {
		refused(example(), s, turns(n), weight(n), api.RateAct{Turns: n, Weight: n}, api.RateAct{Turns: n, Weight: 0}, api.RateAct{Turns: 1, Weight: n})
	}
}

// The image may come to the greatest rates, and not beyond.
func TestImagesWithinTheGreatestRates(t *testing.T) {
	r := example()
	expectAfter(t, r, state(290, 290, false), turns(1), 301, state(300, 300, false))
	expectAfterError(t, r, state(291, 291, false), turns(1), 300, api.ErrRange)
	expectAfterError(t, r, state(0, 291, false), turns(1), 9, api.ErrRange)
	expectAfterError(t, r, state(300, 300, false), turns(1), 309, api.ErrRange)
	expectAfter(t, r, state(-290, -290, false), turns(-1), -301, state(-300, -300, false))
	expectAfterError(t, r, state(-291, -291, false), turns(-1), -300, api.ErrRange)
	expectAfterError(t, r, state(-291, 0, false), turns(-1), -9, api.ErrRange)
	expectAfterError(t, r, state(-300, -300, false), turns(-1), -309, api.ErrRange)
	expectAfter(t, r, state(270, 270, false), turns(3), 299, state(298, 300, false))
	expectAfterError(t, r, state(271, 271, false), turns(3), 299, api.ErrRange)
	expectAfter(t, r, state(-270, -270, false), turns(-3), -299, state(-300, -298, false))
	expectAfterError(t, r, state(-271, -271, false), turns(-3), -299, api.ErrRange)
	expectAfter(t, r, state(294, 294, false), weight(0), 301, state(300, 300, true))
	expectAfterError(t, r, state(295, 295, false), weight(0), 300, api.ErrRange)
	expectAfter(t, r, state(-300, -300, false), weight(0), -296, state(-296, -295, true))
	expectAfter(t, r, state(-300, 300, false), turns(0), -301, state(-300, -300, false))
	expectAfter(t, r, state(-300, 300, false), turns(0), 301, state(300, 300, false))
	expectAfterError(t, r, state(-300, 300, false), turns(0), 302, api.ErrState)
	far := rules(5, 50, span(100, 100), 10, span(100, 100))
	expectAfter(t, far, state(-300, -300, false), turns(6), 350, state(300, 300, false))
	expectAfterError(t, far, state(-300, -300, false), turns(7), 300, api.ErrRange)
	expectAfter(t, far, state(300, 300, true), turns(-6), -350, state(-300, -300, true))
	expectAfterError(t, far, state(300, 300, true), turns(-7), -300, api.ErrRange)
	expectAfterError(t, far, state(0, 0, false), turns(10), 1000, api.ErrRange)
}

// What is seen can be any integer.
func TestSeenFarAway(t *testing.T) {
	for _, seen := range numbers(math.MinInt, math.MinInt+1, math.MinInt+50, math.MinInt+301, -1000, 1000, math.MaxInt-301, math.MaxInt-50, math.MaxInt-1, math.MaxInt) {
		for _, wrong := range numbers(0, 1, 50) {
			r := rules(300, wrong, span(8, 10), 3, span(4, 6))
			for _, a := range actsOf(r) {
				expectAfterError(t, r, state(-250, 250, false), a, seen, api.ErrState)
				expectAfterError(t, r, state(0, 0, false), a, seen, api.ErrState)
			}
		}
	}
}

func TestAfterAgainstAllRates(t *testing.T) {
	for r, s := range someCases(2, 250, size{300, 12, 40, 4, 3}, 30) {
		for _, a := range actsOf(r) {
			image := imageOf(r, s, a)
			for seen := image.Low - r.Error - 2; seen <= image.High+r.Error+2; seen++ {
				next, ok := afterOf(r, s, a, seen)
				switch {
				case !allowedIn(r, s, a):
					expectAfterError(t, r, s, a, seen, api.ErrRange)
				case !ok:
					expectAfterError(t, r, s, a, seen, api.ErrState)
				default:
					expectAfter(t, r, s, a, seen, next)
				}
			}
		}
	}
}
