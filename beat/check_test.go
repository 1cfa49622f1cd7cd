package beat_test

import (
	"math"
	"slices"
	"testing"

	"turret/api"
	"turret/beat"
)

// goodClocks are valid, and have least and greatest values.
func goodClocks() []api.BeatClock {
	list := []api.BeatClock{
		steel(), zinc(), based(steel(), 1000000), based(steel(), -1000000),
		// The lengths of a clock and of its rods.
		withRods(down(100, 1, 2)), withRods(down(100000, 1, 2)), withRods(down(101, 1, 2), up(1, 1, 2)), withRods(down(100000, 1, 2), up(99900, 1, 2)),
		withRods(up(1, 1, 2), down(100000, 1, 2), down(1, 1, 2)), withRods(up(99900, 1, 2), down(100000, 1, 2)), withRods(down(60000, 1, 2), down(40000, 1, 2)),
		withRods(down(100000, 1, 2), up(100000, 1, 2), down(100, 1, 2)), withRods(up(100000, 1, 2), up(100000, 1, 2), down(100000, 1, 2), down(100000, 1, 2), down(100000, 1, 2)),
		// As many rods as are allowed.
		withRods(slices.Repeat(rods(down(12500, 1, 2)), 8)...), withRods(append(slices.Repeat(rods(down(13, 1, 2)), 7), down(9, 0, 0))...),
		// How a rod grows.
		withRods(down(100, 0, 0)), withRods(down(100, 40000, 40000)), withRods(down(100, 0, 40000)), withRods(down(200, 0, 40000), up(50, 0, 40000)),
	}
	for _, s := range spans(single(0), single(-100), single(100), span(-100, 100), span(-100, -99), span(0, 100)) {
		list = append(list, aired(steel(), s))
	}
	for _, s := range spans(single(0), span(0, 1000), single(1000), span(0, 1), span(999, 1000)) {
		list = append(list, driven(api.BeatRecoil, s), driven(api.BeatRest, s))
	}
	for _, s := range spans(span(-1000, 1000), single(-1000), span(-1000, -999), span(-1, 0), span(-5, 7)) {
		list = append(list, driven(api.BeatRest, s))
	}
	return append(list, driven(api.BeatGravity, single(0)))
}

// goodBounds are valid, and have least and greatest values.
func goodBounds() []api.BeatBounds {
	list := []api.BeatBounds{calm(), widest()}
	for _, s := range spans(single(-1000), single(1000), span(-1000, 1000), span(-3, 2), single(1)) {
		list = append(list, warm(s), pressed(s))
	}
	for _, s := range spans(single(0), single(600), span(0, 600), span(0, 1), span(599, 600)) {
		list = append(list, wide(s))
	}
	for _, s := range spans(single(-100), single(100), span(-100, 100), span(-1, 0), single(1)) {
		list = append(list, forced(s))
	}
	return list
}

// lowest returns the truth of a clock and of bounds with the Lows alone.
func lowest(c api.BeatClock, b api.BeatBounds) api.BeatTruth {
	var list []int
	for _, s := range spansOf(c, b) {
		list = append(list, s.Low)
	}
	return truthOf(list)
}

// P3.1

func TestCheckAcceptsClocks(t *testing.T) {
	for _, c := range goodClocks() {
		if e := beat.Check(c); e != api.OK {
			t.Errorf("Check(%v) = %v", c, e)
		}
		_, e := beat.Exact(c, lowest(c, calm()))
		_, f := beat.Rate(c, calm())
		_, _, g := beat.Ends(c, calm())
		_, h := beat.Change(c, calm(), calm())
		_, _, i := beat.Balance(c, len(c.Rods)-1)
		if e != api.OK || f != api.OK || g != api.OK || h != api.OK || i != api.OK {
			t.Errorf("%v: the errors %v, %v, %v, %v, %v", c, e, f, g, h, i)
		}
	}
}

func TestCheckRejectsClocks(t *testing.T) {
	for _, c := range badClocks() {
		if e := beat.Check(c); e != api.ErrArg {
			t.Errorf("Check(%v) = %v", c, e)
		}
	}
	for _, c := range longClocks() {
		if e := beat.Check(c); e != api.ErrLong {
			t.Errorf("Check(%v) = %v", c, e)
		}
	}
}

func TestClockErrorsComeFirst(t *testing.T) {
	expect := func(c api.BeatClock, want api.Errno) {
		t.Helper()
		for _, b := range []api.BeatBounds{calm(), warm(span(2, 1)), wide(span(-1, math.MaxInt))} {
			for _, rod := range numbers(0, -1, len(c.Rods), math.MaxInt) {
				expectErrors(t, c, lowest(c, b), b, rod, want)
				expectErrors(t, c, api.BeatTruth{}, b, rod, want)
			}
			expectChangeError(t, c, calm(), b, want)
			expectChangeError(t, c, b, calm(), want)
		}
	}
	for _, c := range badClocks() {
		expect(c, api.ErrArg)
	}
	for _, c := range longClocks() {
		expect(c, api.ErrLong)
	}
}

// The errors of bounds

func TestGoodBounds(t *testing.T) {
	for _, c := range []api.BeatClock{steel(), zinc(), driven(api.BeatGravity, single(0))} {
		for _, b := range goodBounds() {
			_, e := beat.Rate(c, b)
			_, _, f := beat.Ends(c, b)
			_, g := beat.Change(c, b, calm())
			_, h := beat.Change(c, calm(), b)
			_, i := beat.Exact(c, lowest(c, b))
			if e != api.OK || f != api.OK || g != api.OK || h != api.OK || i != api.OK {
				t.Errorf("%v, %v: the errors %v, %v, %v, %v, %v", c, b, e, f, g, h, i)
			}
		}
	}
}

func TestBadBounds(t *testing.T) {
	for _, b := range badBounds() {
		expectBoundsError(t, steel(), b, api.ErrArg)
		expectBoundsError(t, driven(api.BeatGravity, single(0)), b, api.ErrArg)
		expectChangeError(t, steel(), b, b, api.ErrArg)
		expectChangeError(t, steel(), b, widest(), api.ErrArg)
		expectChangeError(t, steel(), widest(), b, api.ErrArg)
	}
}

// R3, R4

func TestNilAndEmptyLists(t *testing.T) {
	for _, list := range [][]api.BeatRod{nil, {}} {
		for _, grow := range [][]int{nil, {}} {
			c := withRods(list...)
			if e := beat.Check(c); e != api.ErrArg {
				t.Errorf("Check without rods = %v", e)
			}
			expectErrors(t, c, truth(grow, -4, 0, 0, 0, 0, 0), calm(), 0, api.ErrArg)
			expectExactError(t, steel(), truth(grow, -4, 0, 0, 0, 0, 0), api.ErrArg)
		}
	}
}

func TestArgumentsAreNotChanged(t *testing.T) {
	r := seeded(1)
	for s := range settings(2, 200, many()) {
		c, x := s.clock, s.truth(r)
		before, grow := slices.Clone(c.Rods), slices.Clone(x.Grow)
		beat.Check(c)
		beat.Exact(c, x)
		beat.Rate(c, s.bounds)
		beat.Ends(c, s.bounds)
		beat.Change(c, s.bounds, calm())
		for rod := range c.Rods {
			beat.Balance(c, rod)
		}
		if !slices.Equal(c.Rods, before) || !slices.Equal(x.Grow, grow) {
			t.Fatalf("%v: an argument was changed", s)
		}
	}
}

func TestEndsShareNoMemory(t *testing.T) {
	for s := range settings(3, 100, few()) {
		low, high, _ := beat.Ends(s.clock, s.bounds)
		again := slices.Clone(high.Grow)
		for i := range low.Grow {
			low.Grow[i] = -1
		}
		_ = append(low.Grow, -1)
		if !slices.Equal(high.Grow, again) {
			t.Fatalf("%v: the truths of Ends share memory", s)
		}
		low, _, _ = beat.Ends(s.clock, s.bounds)
		if slices.Contains(low.Grow, -1) {
			t.Fatalf("%v: a truth of Ends shares memory with a later one", s)
		}
	}
}
