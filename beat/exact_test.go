package beat_test

import (
	"math"
	"slices"
	"testing"

	"turret/api"
	"turret/beat"
)

func ratio(num, den int) api.Ratio { return api.Ratio{Num: num, Den: den} }

// P3.2

func TestExact(t *testing.T) {
	c := steel()
	expectExact(t, c, truth(numbers(1150), -4, 0, 100, 0, 0, 0), ratio(-4968, 1))
	expectExact(t, c, truth(numbers(1150), -4, 7, -100, 0, 0, 0), ratio(4968, 1))
	expectExact(t, c, truth(numbers(1100), -4, 0, 100, 0, 0, 0), ratio(-4752, 1))
	expectExact(t, c, truth(numbers(1150), -4, 0, 0, 25, 0, 0), ratio(-100, 1))
	expectExact(t, c, truth(numbers(1150), -4, 0, 0, -25, 0, 0), ratio(100, 1))
	expectExact(t, c, truth(numbers(1150), -4, 15, 0, 0, 0, 4), ratio(60, 1))
	expectExact(t, c, truth(numbers(1150), -4, 15, 0, 0, 0, -4), ratio(-60, 1))
	expectExact(t, c, truth(numbers(1150), -4, 0, 0, 0, 100, 0), ratio(-4570, 1))
	// In lowest terms, below 0 and above it.
	expectExact(t, c, truth(numbers(1150), -4, 0, 0, 0, 1, 0), ratio(-457, 1000))
	expectExact(t, c, truth(numbers(1150), -4, 0, 0, 0, 2, 0), ratio(-457, 250))
	expectExact(t, c, truth(numbers(1101), -4, 0, -1, 0, 0, 0), ratio(29727, 625))
	expectExact(t, c, truth(numbers(1101), -4, 0, 1, 0, 0, 0), ratio(-29727, 625))
	expectExact(t, based(c, 3), truth(numbers(1101), -4, 0, 1, 0, 0, 0), ratio(3*625-29727, 625))
	// The length can stand in the denominator.
	expectExact(t, withRods(down(100, 1, 2), down(3, 1, 2)), truth(numbers(2, 1), -4, 0, 1, 0, 0, 0), ratio(-27*203, 64375))
}

func TestExactZero(t *testing.T) {
	for _, c := range []api.BeatClock{steel(), withRods(down(100, 1100, 1100)), withRods(down(99999, 1100, 1100))} {
		expectExact(t, c, truth(numbers(1100), -4, 0, 0, 0, 0, 0), ratio(0, 1))
		expectExact(t, c, truth(numbers(1100), -4, 4, 0, 5, 0, 5), ratio(0, 1))
		expectExact(t, based(c, 4570), truth(numbers(1100), -4, 0, 0, 0, 100, 0), ratio(0, 1))
	}
	expectExact(t, based(steel(), 4968), truth(numbers(1150), -4, 0, 100, 0, 0, 0), ratio(0, 1))
	// Rods that compensate each other.
	both := withRods(down(300, 200, 200), up(200, 300, 300))
	expectExact(t, both, truth(numbers(200, 300), -4, 0, 1000, 0, 0, 0), ratio(0, 1))
}

func TestExactRodsThatAreUp(t *testing.T) {
	// S is 2934000 and 5128000 (example 5), the length 9940.
	expectExact(t, zinc(), truth(numbers(1100, 3100), -4, 0, 1000, 0, 0, 0), ratio(-6337440, 497))
	expectExact(t, zinc(), truth(numbers(1200, 2900), -4, 0, 1000, 0, 0, 0), ratio(-11076480, 497))
	// The one that is Up comes first, and grows more.
	c := withRods(up(100, 0, 300), down(200, 0, 300))
	expectExact(t, c, truth(numbers(300, 100), -4, 0, 100, 0, 0, 0), ratio(432, 1))
	expectExact(t, c, truth(numbers(100, 300), -4, 0, 100, 0, 0, 0), ratio(-2160, 1))
}

func TestExactGreatest(t *testing.T) {
	short := withRods(down(100000, 40000, 40000), down(100000, 40000, 40000), down(100000, 40000, 40000), down(100000, 40000, 40000), up(100000, 0, 0), up(100000, 0, 0), up(100000, 0, 0), up(99900, 0, 0))
	short.Kind, short.Air, short.Drive = api.BeatRest, span(-100, 100), span(-1000, 1000)
	grow := numbers(40000, 40000, 40000, 40000, 0, 0, 0, 0)
	gain := 100000 + 100000 + 432*160000*100000/1000 // S is 160000 * 100000
	expectExact(t, based(short, 1000000), truth(grow, 100, 1000, -1000, 1000, 0, 100), ratio(1000000+gain, 1))
	expectExact(t, based(short, -1000000), truth(grow, -100, 1000, 1000, 1000, 600, -100), ratio(-1000000-gain-164520, 1))
	long := short
	long.Rods = rods(down(100000, 40000, 40000))
	expectExact(t, based(long, 1000000), truth(numbers(40000), 100, -1000, -1000, 1000, 0, -100), ratio(1000000+200000+1728000, 1))
	expectExact(t, based(long, 999999), truth(numbers(40000), 100, -1000, 999, 1000, 599, -100), ratio(999999*1000+200000*1000-1728*999000-457*599*599, 1000))
}

func TestExactAgainstTheDocument(t *testing.T) {
	r := seeded(4)
	for _, size := range []size{few(), many()} {
		for s := range settings(5, 1000, size) {
			x := s.truth(r)
			got, e := beat.Exact(s.clock, x)
			want := rateOf(s.clock, x)
			// A big.Rat is in lowest terms.
			if e != api.OK || got.Den < 1 || want.Num().Int64() != int64(got.Num) || want.Denom().Int64() != int64(got.Den) {
				t.Fatalf("Exact(%v, %v) = %v, %v; want %v", s.clock, x, got, e, want)
			}
		}
	}
}

func TestExactAcceptsTruths(t *testing.T) {
	c := driven(api.BeatRest, span(-9, 20))
	for i, s := range spansOf(c, widest()) {
		for _, n := range numbers(s.Low, s.Low+1, s.High-1, s.High) {
			list := numbers(1150, -4, 0, 0, 0, 0, 0)
			list[i] = n
			if _, e := beat.Exact(c, truthOf(list)); e != api.OK {
				t.Errorf("Exact(%v) = %v", list, e)
			}
		}
	}
}

func TestExactRejectsTruths(t *testing.T) {
	c := driven(api.BeatRest, span(-9, 20))
	for i, s := range spansOf(c, widest()) {
		for _, n := range append(wild(), s.Low-1, s.High+1) {
			list := numbers(1150, -4, 0, 0, 0, 0, 0)
			list[i] = n
			expectExactError(t, c, truthOf(list), api.ErrArg)
		}
	}
	for _, grow := range [][]int{nil, {}, {1150, 1150}, {1150, 0}, {1150, 1100, 1200}, make([]int, 8), slices.Repeat(numbers(1150), 9), slices.Repeat(numbers(1150), 1000)} {
		expectExactError(t, c, truth(grow, -4, 0, 0, 0, 0, 0), api.ErrArg)
		expectExactError(t, c, truth(grow, math.MinInt, 0, math.MaxInt, 0, -1, 0), api.ErrArg)
	}
	// The span of one rod does not hold for another one.
	two := zinc()
	expectExactError(t, two, truth(numbers(1150), -4, 0, 0, 0, 0, 0), api.ErrArg)
	expectExactError(t, two, truth(numbers(3000, 1150), -4, 0, 0, 0, 0, 0), api.ErrArg)
	expectExactError(t, two, truth(numbers(1150, 3101), -4, 0, 0, 0, 0, 0), api.ErrArg)
	expectExactError(t, two, truth(numbers(1150, 2899), -4, 0, 0, 0, 0, 0), api.ErrArg)
	expectExactError(t, two, truth(numbers(1150, 3000, 0), -4, 0, 0, 0, 0, 0), api.ErrArg)
	eight := withRods(slices.Repeat(rods(down(100, 0, 5)), 8)...)
	expectExact(t, eight, truth(make([]int, 8), -4, 0, 0, 0, 0, 0), ratio(0, 1))
	expectExactError(t, eight, truth(make([]int, 9), -4, 0, 0, 0, 0, 0), api.ErrArg)
	expectExactError(t, eight, truth(make([]int, 7), -4, 0, 0, 0, 0, 0), api.ErrArg)
	expectExactError(t, eight, truth(numbers(0, 0, 0, 0, 0, 0, 0, 6), -4, 0, 0, 0, 0, 0), api.ErrArg)
}
