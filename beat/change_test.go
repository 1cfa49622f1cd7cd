package beat_test

import (
	"math/big"
	"slices"
	"testing"

	"turret/api"
	"turret/beat"
)

// P3.5

func TestChange(t *testing.T) {
	c := steel()
	expectChange(t, c, calm(), pressed(single(10)), span(-50, -30))
	expectChange(t, c, pressed(single(10)), calm(), span(30, 50))
	expectChange(t, c, calm(), warm(span(-100, 100)), span(-5184, 5184))
	expectChange(t, c, warm(span(-100, 100)), calm(), span(-5184, 5184))
	expectChange(t, c, warm(single(-100)), warm(single(100)), span(-10368, -9504))
	expectChange(t, c, warm(span(0, 10)), warm(span(5, 20)), span(-1037, 260))
	expectChange(t, c, pressed(span(0, 10)), pressed(span(5, 20)), span(-100, 25))
	expectChange(t, c, forced(span(0, 10)), forced(span(5, 20)), span(-100, 400))
	expectChange(t, c, forced(span(0, 4)), forced(span(5, 20)), span(0, 400))
	expectChange(t, driven(api.BeatRest, span(-7, 2)), forced(span(-3, 4)), forced(span(0, 10)), span(-91, 28))
	expectChange(t, driven(api.BeatRest, span(-7, -2)), forced(single(1)), forced(span(3, 4)), span(-21, -4))
	// The squares of the arcs differ.
	expectChange(t, c, calm(), wide(single(100)), single(-4570))
	expectChange(t, c, wide(single(100)), wide(single(110)), span(-960, -959))
	expectChange(t, c, wide(single(110)), wide(single(100)), span(959, 960))
	expectChange(t, c, wide(span(100, 110)), wide(span(100, 110)), span(-960, 960))
	expectChange(t, c, wide(span(100, 200)), wide(span(300, 400)), span(-68550, -22850))
	expectChange(t, c, wide(span(0, 600)), wide(span(0, 1)), span(-1, 164520))
	// All of it together; Base does nothing.
	from, to := bounds(single(0), single(0), single(100), single(0)), bounds(span(-100, 100), single(10), single(110), span(-1, 4))
	expectChange(t, based(c, 500), from, to, span(-5184-50-960-20, 5184-30-959+80))
	// 47.5632, rounded outwards, and as a part of a sum.
	fixed := withRods(down(9940, 1101, 1101))
	expectChange(t, fixed, calm(), warm(single(1)), span(-48, -47))
	expectChange(t, fixed, warm(single(7)), warm(single(6)), span(47, 48))
	expectChange(t, fixed, wide(single(0)), bounds(single(1), single(0), single(1), single(0)), span(-49, -48))
	expectChange(t, fixed, wide(single(1)), bounds(single(1), single(0), single(0), single(0)), span(-48, -47))
}

// The clock stays as it is: what it does in both weathers goes away.
func TestChangeOfOneClock(t *testing.T) {
	for _, c := range goodClocks() {
		for _, b := range []api.BeatBounds{calm(), bounds(single(700), single(-800), single(600), single(90)), bounds(single(-1000), single(1), single(1), single(-100))} {
			expectChange(t, c, b, b, single(0))
		}
	}
	c := zinc()
	expectChange(t, c, warm(single(500)), warm(single(501)), span(-23, -12))
	expectChange(t, c, warm(single(-500)), warm(single(-501)), span(12, 23))
}

func TestChangeOfGreatestWeather(t *testing.T) {
	c := withRods(down(100000, 40000, 40000), down(100000, 40000, 40000), down(100000, 40000, 40000), down(100000, 40000, 40000), up(100000, 0, 0), up(100000, 0, 0), up(100000, 0, 0), up(99900, 0, 0))
	c.Kind, c.Air, c.Drive = api.BeatRest, span(-100, 100), span(-1000, 1000)
	hot := 432 * 160000 * 100000 / 1000000 * 2000
	expectChange(t, c, widest(), widest(), span(-hot-200000-164520-200000, hot+200000+164520+200000))
	expectChange(t, c, bounds(single(-1000), single(-1000), single(0), single(-100)), bounds(single(1000), single(1000), single(600), single(100)), span(-hot-200000-164520-200000, -hot+200000-164520+200000))
}

// changesOf returns the least and the greatest change, of all that take of each span what choose returns.
func changesOf(c api.BeatClock, from, to api.BeatBounds, choose func(api.Span) []int) (least, greatest *big.Rat) {
	var lists [][]int
	for _, s := range append(spansOf(c, from), spansOf(c, to)[len(c.Rods)+2:]...) {
		lists = append(lists, choose(s))
	}
	n := len(c.Rods) + 2
	for list := range picks(lists) {
		before, after := truthOf(list[:n+4]), truthOf(slices.Concat(list[:n], list[n+4:]))
		change := rateOf(c, after)
		change.Sub(change, rateOf(c, before))
		if least == nil || change.Cmp(least) < 0 {
			least = change
		}
		if greatest == nil || change.Cmp(greatest) > 0 {
			greatest = change
		}
	}
	return least, greatest
}

func checkChange(t *testing.T, s setting, to api.BeatBounds, choose func(api.Span) []int) {
	t.Helper()
	least, greatest := changesOf(s.clock, s.bounds, to, choose)
	expectChange(t, s.clock, s.bounds, to, span(roundedDown(least), roundedUp(greatest)))
}

func TestChangeAgainstAllTruths(t *testing.T) {
	r, size := seeded(14), few()
	size.rods = 1
	for s := range settings(15, 40, size) {
		checkChange(t, s, randomBounds(r, size), allOf)
	}
}

func TestChangeAgainstAllCorners(t *testing.T) {
	r, size := seeded(16), many()
	size.rods = 2
	for s := range settings(17, 40, size) {
		checkChange(t, s, randomBounds(r, size), endsOf)
	}
}

// P3.8

func TestKnownBetterChanges(t *testing.T) {
	r := seeded(18)
	for _, size := range []size{few(), many()} {
		for s := range settings(19, 300, size) {
			to, better := setting{s.clock, randomBounds(r, size)}, narrower(r, s)
			betterTo := narrower(r, to)
			wide, e := beat.Change(s.clock, s.bounds, to.bounds)
			narrow, f := beat.Change(better.clock, better.bounds, betterTo.bounds)
			if e != api.OK || f != api.OK || !holds(wide, narrow) {
				t.Fatalf("%v to %v has %v, %v, but %v to %v has %v, %v", s, to.bounds, wide, e, better, betterTo.bounds, narrow, f)
			}
		}
	}
}

// P3.10

func TestWhatChanges(t *testing.T) {
	r := seeded(20)
	for _, size := range []size{few(), many()} {
		for s := range settings(21, 300, size) {
			to := setting{s.clock, randomBounds(r, size)}
			change, _ := beat.Change(s.clock, s.bounds, to.bounds)
			for range 30 {
				before, after := s.truth(r), to.truth(r)
				after.Grow, after.Air, after.Drive = before.Grow, before.Air, before.Drive
				first, e := beat.Exact(s.clock, before)
				second, f := beat.Exact(s.clock, after)
				more := new(big.Rat).Sub(rational(second), rational(first))
				if e != api.OK || f != api.OK || more.Cmp(whole(change.Low)) < 0 || more.Cmp(whole(change.High)) > 0 {
					t.Fatalf("%v to %v: from %v to %v the rate changes by %v, beyond %v", s, to.bounds, before, after, more, change)
				}
			}
			if same, e := beat.Change(s.clock, s.bounds, s.bounds); e != api.OK || same.Low > 0 || same.High < 0 || same.Low != -same.High {
				t.Fatalf("%v to itself: %v, %v", s, same, e)
			}
		}
	}
}

func TestGravityHasNoForce(t *testing.T) {
	r := seeded(22)
	for s := range settings(23, 300, many()) {
		s.clock.Kind, s.clock.Drive = api.BeatGravity, single(0)
		other, x := s.bounds, s.truth(r)
		other.Force = randomSpan(r, many(), span(-100, 100))
		rate, e := beat.Rate(s.clock, s.bounds)
		if e != api.OK {
			t.Fatal(s, e)
		}
		expectRate(t, s.clock, other, rate)
		change, _ := beat.Change(s.clock, s.bounds, s.bounds)
		expectChange(t, s.clock, s.bounds, other, change)
		expectChange(t, s.clock, other, s.bounds, change)
		exact, _ := beat.Exact(s.clock, x)
		x.Force = -x.Force
		expectExact(t, s.clock, x, exact)
		low, high, _ := beat.Ends(s.clock, other)
		if low.Force != other.Force.Low || high.Force != other.Force.Low {
			t.Fatalf("%v: the Ends have the forces %d and %d", other, low.Force, high.Force)
		}
	}
}
