package beat_test

import (
	"testing"

	"turret/api"
)

// P3.4

func TestEnds(t *testing.T) {
	c := steel()
	expectEnds(t, c, warm(span(-100, 100)), truth(numbers(1200), -5, 0, 100, 0, 0, 0), truth(numbers(1200), -5, 0, -100, 0, 0, 0))
	expectEnds(t, c, warm(span(50, 100)), truth(numbers(1200), -5, 0, 100, 0, 0, 0), truth(numbers(1100), -5, 0, 50, 0, 0, 0))
	expectEnds(t, c, warm(span(-100, -50)), truth(numbers(1100), -5, 0, -50, 0, 0, 0), truth(numbers(1200), -5, 0, -100, 0, 0, 0))
	expectEnds(t, c, pressed(span(-10, 20)), truth(numbers(1100), -5, 0, 0, 20, 0, 0), truth(numbers(1100), -5, 0, 0, -10, 0, 0))
	expectEnds(t, c, pressed(span(10, 20)), truth(numbers(1100), -5, 0, 0, 20, 0, 0), truth(numbers(1100), -3, 0, 0, 10, 0, 0))
	expectEnds(t, c, wide(span(100, 110)), truth(numbers(1100), -5, 0, 0, 0, 110, 0), truth(numbers(1100), -5, 0, 0, 0, 100, 0))
	expectEnds(t, c, forced(span(-3, 4)), truth(numbers(1100), -5, 20, 0, 0, 0, -3), truth(numbers(1100), -5, 20, 0, 0, 0, 4))
	all := bounds(span(-100, 100), span(-10, 20), span(100, 110), span(-3, 4))
	expectEnds(t, c, all, truth(numbers(1200), -5, 20, 100, 20, 110, -3), truth(numbers(1200), -5, 20, -100, -10, 100, 4))
	expectEnds(t, zinc(), warm(span(-100, 50)), truth(numbers(1200, 2900), -5, 0, 50, 0, 0, 0), truth(numbers(1200, 2900), -5, 0, -100, 0, 0, 0))
	expectEnds(t, zinc(), warm(span(30, 50)), truth(numbers(1200, 2900), -5, 0, 50, 0, 0, 0), truth(numbers(1100, 3100), -5, 0, 30, 0, 0, 0))
}

// expectSameEnds fails unless a truth has both the least and the greatest rate, as the smallest one.
func expectSameEnds(t *testing.T, c api.BeatClock, b api.BeatBounds, x api.BeatTruth) {
	t.Helper()
	expectEnds(t, c, b, x, x)
}

func TestEndsOfEqualRates(t *testing.T) {
	c := steel()
	// What does nothing is the least there is.
	expectSameEnds(t, c, calm(), truth(numbers(1100), -5, 0, 0, 0, 0, 0))
	expectSameEnds(t, aired(c, single(0)), pressed(span(-7, 7)), truth(numbers(1100), 0, 0, 0, -7, 0, 0))
	expectSameEnds(t, driven(api.BeatGravity, single(0)), forced(span(-8, 8)), truth(numbers(1100), -5, 0, 0, 0, 0, -8))
	expectSameEnds(t, driven(api.BeatRest, single(0)), forced(span(-8, 8)), truth(numbers(1100), -5, 0, 0, 0, 0, -8))
	expectSameEnds(t, withRods(down(9940, 0, 0)), warm(span(-9, 9)), truth(numbers(0), -5, 0, -9, 0, 0, 0))
	expectSameEnds(t, withRods(down(300, 200, 200), up(200, 300, 300)), warm(span(-9, 9)), truth(numbers(200, 300), -5, 0, -9, 0, 0, 0))
	// The least rate is 0 with an unknown that is 0, whatever the other one is.
	expectEnds(t, aired(c, span(0, 4)), pressed(span(0, 9)), truth(numbers(1100), 0, 0, 0, 0, 0, 0), truth(numbers(1100), 4, 0, 0, 9, 0, 0))
	expectEnds(t, aired(c, span(0, 4)), pressed(span(3, 9)), truth(numbers(1100), 0, 0, 0, 3, 0, 0), truth(numbers(1100), 4, 0, 0, 9, 0, 0))
	expectEnds(t, aired(c, span(-4, 0)), pressed(span(-9, 0)), truth(numbers(1100), -4, 0, 0, 0, 0, 0), truth(numbers(1100), -4, 0, 0, -9, 0, 0))
	expectEnds(t, aired(c, span(-4, 0)), pressed(span(-9, -3)), truth(numbers(1100), 0, 0, 0, -9, 0, 0), truth(numbers(1100), -4, 0, 0, -9, 0, 0))
	expectEnds(t, aired(c, span(1, 4)), pressed(span(0, 9)), truth(numbers(1100), 1, 0, 0, 0, 0, 0), truth(numbers(1100), 4, 0, 0, 9, 0, 0))
	expectEnds(t, aired(c, span(-4, -1)), pressed(span(0, 9)), truth(numbers(1100), -4, 0, 0, 9, 0, 0), truth(numbers(1100), -4, 0, 0, 0, 0, 0))
	// Two corners have the same rate.
	expectEnds(t, aired(c, span(-3, 3)), pressed(span(-2, 2)), truth(numbers(1100), -3, 0, 0, 2, 0, 0), truth(numbers(1100), -3, 0, 0, -2, 0, 0))
	expectEnds(t, driven(api.BeatRest, span(-3, 3)), forced(span(-2, 2)), truth(numbers(1100), -5, -3, 0, 0, 0, 2), truth(numbers(1100), -5, -3, 0, 0, 0, -2))
	expectEnds(t, driven(api.BeatRest, span(-3, 6)), forced(span(-4, 2)), truth(numbers(1100), -5, 6, 0, 0, 0, -4), truth(numbers(1100), -5, -3, 0, 0, 0, -4))
	// S is from -200 to 200.
	even := withRods(down(200, 0, 1), up(100, 0, 2))
	expectEnds(t, even, warm(span(-5, 5)), truth(numbers(0, 2), -5, 0, -5, 0, 0, 0), truth(numbers(0, 2), -5, 0, 5, 0, 0, 0))
	expectEnds(t, even, warm(span(-4, 5)), truth(numbers(1, 0), -5, 0, 5, 0, 0, 0), truth(numbers(0, 2), -5, 0, 5, 0, 0, 0))
	expectSameEnds(t, even, warm(single(0)), truth(numbers(0, 0), -5, 0, 0, 0, 0, 0))
	// S is from 0 on, or to 0.
	expectEnds(t, withRods(down(200, 0, 1)), warm(span(0, 5)), truth(numbers(1), -5, 0, 5, 0, 0, 0), truth(numbers(0), -5, 0, 0, 0, 0, 0))
	expectEnds(t, withRods(down(200, 0, 1)), warm(span(2, 5)), truth(numbers(1), -5, 0, 5, 0, 0, 0), truth(numbers(0), -5, 0, 2, 0, 0, 0))
	expectEnds(t, withRods(down(200, 0, 0), up(100, 0, 1)), warm(span(2, 5)), truth(numbers(0, 0), -5, 0, 2, 0, 0, 0), truth(numbers(0, 1), -5, 0, 5, 0, 0, 0))
}

// Of rods that are Up the ends are the other ones, and it is the truth as a list that is smallest, not each unknown alone.
func TestEndsOfSeveralRods(t *testing.T) {
	c := withRods(up(100, 0, 3), down(300, 0, 0), down(100, 0, 1), up(100, 0, 0))
	expectEnds(t, c, warm(single(10)), truth(numbers(0, 0, 1, 0), -5, 0, 10, 0, 0, 0), truth(numbers(3, 0, 0, 0), -5, 0, 10, 0, 0, 0))
	expectEnds(t, c, warm(span(-10, 10)), truth(numbers(3, 0, 0, 0), -5, 0, -10, 0, 0, 0), truth(numbers(3, 0, 0, 0), -5, 0, 10, 0, 0, 0))
	expectEnds(t, c, warm(span(-10, 30)), truth(numbers(0, 0, 1, 0), -5, 0, 30, 0, 0, 0), truth(numbers(3, 0, 0, 0), -5, 0, 30, 0, 0, 0))
	eight := withRods(down(100, 1, 2), up(50, 1, 2), down(100, 1, 2), up(50, 1, 2), down(100, 1, 2), up(50, 1, 2), down(100, 1, 2), up(50, 1, 2))
	expectEnds(t, eight, warm(span(0, 10)), truth(numbers(2, 1, 2, 1, 2, 1, 2, 1), -5, 0, 10, 0, 0, 0), truth(numbers(1, 1, 1, 1, 1, 1, 1, 1), -5, 0, 0, 0, 0, 0))
}
