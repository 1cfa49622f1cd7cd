package beat_test

import (
	"math/rand/v2"
	"testing"

	"turret/api"
	"turret/beat"
)

// P3.3

func TestRate(t *testing.T) {
	c := steel()
	expectRate(t, c, calm(), single(0))
	expectRate(t, c, warm(span(-100, 100)), span(-5184, 5184))
	expectRate(t, c, warm(span(0, 100)), span(-5184, 0))
	expectRate(t, c, warm(span(50, 100)), span(-5184, -2376))
	expectRate(t, c, warm(span(-100, -50)), span(2376, 5184))
	expectRate(t, c, warm(single(100)), span(-5184, -4752))
	expectRate(t, c, wide(single(100)), single(-4570))
	expectRate(t, c, wide(span(100, 110)), span(-5530, -4570))
	expectRate(t, c, wide(span(0, 600)), span(-164520, 0))
	// Spans that hold 0, and spans that do not.
	expectRate(t, c, pressed(span(-10, 20)), span(-100, 50))
	expectRate(t, c, pressed(span(10, 20)), span(-100, -30))
	expectRate(t, c, pressed(span(-20, -10)), span(30, 100))
	expectRate(t, c, pressed(span(0, 20)), span(-100, 0))
	expectRate(t, c, pressed(span(-20, 0)), span(0, 100))
	expectRate(t, aired(c, span(-5, 3)), pressed(span(-10, 20)), span(-100, 60))
	expectRate(t, aired(c, span(2, 3)), pressed(span(-10, 20)), span(-30, 60))
	expectRate(t, c, forced(span(-3, 4)), span(-60, 80))
	expectRate(t, c, forced(span(3, 4)), span(0, 80))
	expectRate(t, c, forced(span(-4, -3)), span(-80, 0))
	expectRate(t, driven(api.BeatRest, span(-7, 2)), forced(span(-3, 4)), span(-28, 21))
	expectRate(t, driven(api.BeatRest, span(-7, -2)), forced(span(3, 4)), span(-28, -6))
	expectRate(t, driven(api.BeatGravity, single(0)), forced(span(-100, 100)), single(0))
	// The least of each, and the greatest, come together.
	expectRate(t, c, bounds(span(-100, 100), span(-10, 20), span(0, 100), span(-3, 4)), span(-5184-100-4570-60, 5184+50+80))
	expectRate(t, based(c, 1000), bounds(span(-100, 100), span(-10, 20), span(100, 110), span(-3, 4)), span(1000-5184-100-5530-60, 1000+5184+50-4570+80))
}

func TestRateIsRoundedOutwards(t *testing.T) {
	c := steel()
	expectRate(t, c, wide(single(1)), span(-1, 0))
	expectRate(t, c, wide(span(0, 1)), span(-1, 0))
	expectRate(t, c, wide(span(1, 2)), span(-2, 0))
	expectRate(t, c, wide(span(3, 4)), span(-8, -4))
	expectRate(t, based(c, 7), wide(single(1)), span(6, 7))
	expectRate(t, based(c, -7), wide(single(1)), span(-8, -7))
	// 47.5632, below 0 and above it.
	fixed := withRods(down(9940, 1101, 1101))
	expectRate(t, fixed, warm(single(-1)), span(47, 48))
	expectRate(t, fixed, warm(single(1)), span(-48, -47))
	// The sum is rounded, not what it consists of: -47.5632 - 0.457 is -48.0202, and 47.5632 - 0.457 is 47.1062.
	expectRate(t, fixed, bounds(single(1), single(0), single(1), single(0)), span(-49, -48))
	expectRate(t, fixed, bounds(single(-1), single(0), single(1), single(0)), span(47, 48))
	// Of fractions, the whole numbers are not rounded.
	expectRate(t, withRods(down(9940, 1250, 1250)), warm(span(-1, 1)), span(-54, 54))
}

func TestRateOfSeveralRods(t *testing.T) {
	// With S from 2934000 to 5128000 and the length 9940, heat does from -22.29 to -12.75 for each tenth of a degree.
	expectRate(t, zinc(), warm(single(1)), span(-23, -12))
	expectRate(t, zinc(), warm(span(-1000, 1000)), span(-22287, 22287))
	expectRate(t, zinc(), warm(span(-1000, 500)), span(-11144, 22287))
	// S is from -300 to 100 and the length 200.
	c := withRods(up(100, 0, 3), down(300, 0, 0), down(100, 0, 1), up(100, 0, 0))
	expectRate(t, c, warm(span(0, 1000)), span(-22, 65))
	expectRate(t, c, warm(span(-1000, 0)), span(-65, 22))
	expectRate(t, c, warm(span(-1000, 1000)), span(-65, 65))
	// Eight rods.
	eight := withRods(down(100, 1, 2), up(50, 1, 2), down(100, 1, 2), up(50, 1, 2), down(100, 1, 2), up(50, 1, 2), down(100, 1, 2), up(50, 1, 2))
	// S is from 400 - 400 to 800 - 200, the length 200.
	expectRate(t, eight, warm(single(1000)), span(-130, 0))
}

// checkExtremes fails unless Rate and Ends return what is known to be the extremes.
func checkExtremes(t *testing.T, s setting, x extremes) {
	t.Helper()
	expectRate(t, s.clock, s.bounds, span(roundedDown(x.least), roundedUp(x.greatest)))
	expectEnds(t, s.clock, s.bounds, x.low, x.high)
}

func TestRateAndEndsAgainstAllTruths(t *testing.T) {
	for s := range settings(6, 400, few()) {
		checkExtremes(t, s, extremesOf(s.clock, truths(s.clock, s.bounds, allOf)))
	}
}

func TestRateAndEndsAgainstAllCorners(t *testing.T) {
	for s := range settings(7, 200, many()) {
		checkExtremes(t, s, extremesOf(s.clock, truths(s.clock, s.bounds, endsOf)))
	}
	for _, c := range goodClocks() {
		if len(c.Rods) == 8 {
			continue // too many corners
		}
		for _, b := range goodBounds() {
			checkExtremes(t, setting{c, b}, extremesOf(c, truths(c, b, endsOf)))
		}
	}
}

// P3.7

func TestTheCone(t *testing.T) {
	r := seeded(8)
	for _, size := range []size{few(), many()} {
		for s := range settings(9, 200, size) {
			rate, _ := beat.Rate(s.clock, s.bounds)
			for range 50 {
				x := s.truth(r)
				exact, e := beat.Exact(s.clock, x)
				if e != api.OK || rational(exact).Cmp(whole(rate.Low)) < 0 || rational(exact).Cmp(whole(rate.High)) > 0 {
					t.Fatalf("%v: the truth %v has the rate %v, %v, beyond %v", s, x, exact, e, rate)
				}
			}
			low, high, _ := beat.Ends(s.clock, s.bounds)
			checkWithin(t, s, low)
			checkWithin(t, s, high)
			least, e := beat.Exact(s.clock, low)
			greatest, f := beat.Exact(s.clock, high)
			if e != api.OK || f != api.OK || roundedDown(rational(least)) != rate.Low || roundedUp(rational(greatest)) != rate.High {
				t.Fatalf("%v: the Ends have the rates %v and %v, but Rate is %v", s, least, greatest, rate)
			}
		}
	}
}

// checkWithin fails unless a truth is one within bounds.
func checkWithin(t *testing.T, s setting, x api.BeatTruth) {
	t.Helper()
	list, from := listOf(x), spansOf(s.clock, s.bounds)
	if len(list) != len(from) {
		t.Fatalf("%v: the truth %v has a wrong number of rods", s, x)
	}
	for i, n := range list {
		if n < from[i].Low || n > from[i].High {
			t.Fatalf("%v: the truth %v is not within bounds", s, x)
		}
	}
}

// P3.8

// narrower returns a setting of which some spans are narrower.
func narrower(r *rand.Rand, s setting) setting {
	list := spansOf(s.clock, s.bounds)
	for i, s := range list {
		if r.IntN(2) == 0 {
			low := s.Low + r.IntN(s.High-s.Low+1)
			list[i] = span(low, low+r.IntN(s.High-low+1))
		}
	}
	c, b := withSpans(s.clock, list)
	return setting{c, b}
}

func holds(wide, narrow api.Span) bool { return wide.Low <= narrow.Low && narrow.High <= wide.High }

func TestKnownBetter(t *testing.T) {
	r := seeded(10)
	for _, size := range []size{few(), many()} {
		for s := range settings(11, 300, size) {
			better := narrower(r, s)
			wide, e := beat.Rate(s.clock, s.bounds)
			narrow, f := beat.Rate(better.clock, better.bounds)
			if e != api.OK || f != api.OK || !holds(wide, narrow) {
				t.Fatalf("%v has %v, %v, but %v has %v, %v", s, wide, e, better, narrow, f)
			}
		}
	}
}

// P3.9

func TestANut(t *testing.T) {
	r := seeded(12)
	for _, size := range []size{few(), many()} {
		for s := range settings(13, 200, size) {
			other, x := based(s.clock, r.IntN(2000001)-1000000), s.truth(r)
			more := other.Base - s.clock.Base
			exact, _ := beat.Exact(s.clock, x)
			expectExact(t, other, x, ratio(exact.Num+more*exact.Den, exact.Den))
			rate, _ := beat.Rate(s.clock, s.bounds)
			expectRate(t, other, s.bounds, span(rate.Low+more, rate.High+more))
			low, high, _ := beat.Ends(s.clock, s.bounds)
			expectEnds(t, other, s.bounds, low, high)
			to := randomBounds(r, size)
			change, _ := beat.Change(s.clock, s.bounds, to)
			expectChange(t, other, s.bounds, to, change)
		}
	}
}
