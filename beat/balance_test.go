package beat_test

import (
	"slices"
	"testing"

	"turret/api"
	"turret/beat"
)

// cut returns a clock with a rod of another length.
func cut(c api.BeatClock, rod, length int) api.BeatClock {
	c.Rods = slices.Clone(c.Rods)
	c.Rods[rod].Length = length
	return c
}

// P3.6

func TestBalance(t *testing.T) {
	expectBalance(t, zinc(), 1, 5344, 1232400)
	// The steel instead, with 4000 of zinc: 1200 times the length less 11600000, or 12400000 less 1100 times the length.
	expectBalance(t, zinc(), 0, 10435, 922000)
	// It does not matter how long the rod is now.
	for _, n := range numbers(1, 2, 5344, 13840) {
		expectBalance(t, cut(zinc(), 1, n), 1, 5344, 1232400)
	}
	// One rod is as short as can be.
	expectBalance(t, steel(), 0, 100, 120000)
	expectBalance(t, withRods(down(100, 0, 40000)), 0, 100, 4000000)
	expectBalance(t, withRods(down(100000, 40000, 40000)), 0, 100, 4000000)
	// The effect is 0.
	expectBalance(t, withRods(down(300, 200, 200), up(7, 300, 300)), 1, 200, 0)
	expectBalance(t, withRods(up(7, 300, 300), down(300, 200, 200)), 0, 200, 0)
	expectBalance(t, withRods(up(200, 300, 300), down(900, 200, 200)), 1, 300, 0)
	// A rod that can grow by nothing does nothing.
	expectBalance(t, withRods(down(900, 0, 0)), 0, 100, 0)
	expectBalance(t, withRods(down(900, 3, 5), up(100, 0, 0)), 1, 1, 4500)
	expectBalance(t, withRods(down(900, 3, 5), down(100, 0, 0)), 1, 1, 4500)
	expectBalance(t, withRods(down(50, 3, 5), down(100, 0, 0)), 1, 50, 250)
}

func TestBalanceOfEqualEffects(t *testing.T) {
	// S is 1 and -1 with two lengths.
	expectBalance(t, withRods(down(301, 1, 1), up(7, 2, 2)), 1, 150, 1)
	expectBalance(t, withRods(up(100, 5, 5), up(1, 1, 1), down(300, 2, 2)), 2, 250, 1)
	// With many lengths it is the greatest S, or the least one, of the other rods.
	expectBalance(t, withRods(down(300, 0, 4), up(100, 0, 5)), 1, 1, 1200)
	expectBalance(t, withRods(up(100, 0, 4), down(300, 0, 1)), 1, 200, 400)
	expectBalance(t, withRods(up(100, 0, 4), down(50, 0, 1), down(300, 0, 1)), 2, 150, 400)
	// With no other length the effect is equal.
	expectBalance(t, withRods(down(301, 1, 1), up(7, 2, 3)), 1, 120, 61)
}

func TestBalanceWithinTheLengths(t *testing.T) {
	// The clock is as short as can be.
	expectBalance(t, withRods(down(100000, 40000, 40000), up(7, 1, 1)), 1, 99900, 40000*100000-99900)
	expectBalance(t, withRods(down(150, 40000, 40000), up(7, 1, 1)), 1, 50, 40000*150-50)
	expectBalance(t, withRods(down(101, 40000, 40000), up(1, 1, 1)), 1, 1, 40000*101-1)
	expectBalance(t, withRods(up(5000, 0, 0), down(9000, 10, 10)), 1, 5100, 51000)
	// The clock is as long as can be.
	expectBalance(t, withRods(up(50000, 40000, 40000), down(60000, 0, 0), down(7000, 1, 1)), 2, 90000, 2000000000-90000)
	expectBalance(t, withRods(down(99999, 5, 5), up(90, 40000, 40000), down(1, 10, 10)), 2, 91, 3600000-499995-910)
	expectBalance(t, withRods(down(100000, 5, 5), down(50000, 5, 5), up(60000, 10, 10)), 2, 75000, 0)
	expectBalance(t, withRods(down(100000, 5, 5), down(50000, 5, 5), up(60000, 20, 20)), 2, 50000, 250000)
	// The rod is as long, or as short, as can be.
	expectBalance(t, withRods(down(100000, 40000, 40000), down(50000, 0, 0), up(60000, 1, 1)), 2, 100000, 4000000000-100000)
	expectBalance(t, withRods(up(50000, 40000, 40000), up(40000, 0, 0), down(95000, 1, 1)), 2, 100000, 2000000000-100000)
	expectBalance(t, withRods(down(900, 1, 1), down(500, 1, 1)), 1, 1, 901)
	expectBalance(t, withRods(down(900, 1, 1), up(500, 2000, 2000)), 1, 1, 1100)
}

func TestBalanceErrors(t *testing.T) {
	for _, c := range goodClocks() {
		for _, rod := range append(wild(), -1, -2, len(c.Rods), len(c.Rods)+1) {
			expectBalanceError(t, c, rod, api.ErrNone)
		}
		for rod := range c.Rods {
			if _, _, e := beat.Balance(c, rod); e != api.OK {
				t.Errorf("Balance(%v, %d): the error %v", c, rod, e)
			}
		}
	}
}

// effectOf returns the greatest absolute value of the S of all corners.
func effectOf(c api.BeatClock) int {
	var ends [][]int
	for _, r := range c.Rods {
		ends = append(ends, endsOf(r.Grow))
	}
	effect := 0
	for grow := range picks(ends) {
		s := growthOf(c, grow)
		effect = max(effect, s, -s)
	}
	return effect
}

// bestLength tries all lengths of a rod.
func bestLength(c api.BeatClock, rod int) (length, worst int) {
	for n := 1; n <= 100000; n++ {
		// The rest of the clock is valid.
		c.Rods[rod].Length = n
		if total := lengthOf(c); total < 100 || total > 100000 {
			continue
		}
		if effect := effectOf(c); length == 0 || effect < worst {
			length, worst = n, effect
		}
	}
	return length, worst
}

// P3.11

func TestBalanceAgainstAllLengths(t *testing.T) {
	for _, size := range []size{few(), many(), {rods: 3, steps: 50000, step: 1, width: 300, far: 2000}} {
		for s := range settings(24, 20, size) {
			for rod := range min(2, len(s.clock.Rods)) {
				length, worst := bestLength(cut(s.clock, rod, 1), rod)
				expectBalance(t, s.clock, rod, length, worst)
			}
		}
	}
}

// balanced are clocks in which S is 0 in all truths, once a rod is cut.
func balanced(t *testing.T) []api.BeatClock {
	t.Helper()
	list := []api.BeatClock{withRods(down(500, 0, 0)), withRods(down(500, 0, 0), up(200, 0, 0))}
	for _, c := range []api.BeatClock{withRods(down(300, 200, 200), up(7, 300, 300)), withRods(down(9000, 1100, 1100), up(1, 3000, 3000), down(3000, 1100, 1100)), withRods(down(77, 500, 500), down(100, 0, 0), up(10, 3850, 3850))} {
		rod := slices.IndexFunc(c.Rods, func(r api.BeatRod) bool { return r.Up })
		length, worst, e := beat.Balance(c, rod)
		if worst != 0 || e != api.OK {
			t.Fatalf("Balance(%v, %d) = %d, %d, %v", c, rod, length, worst, e)
		}
		list = append(list, cut(c, rod, length))
	}
	return list
}

func TestBalancedClocksDoNotChangeWithHeat(t *testing.T) {
	r := seeded(25)
	for _, c := range balanced(t) {
		for range 50 {
			b := randomBounds(r, many())
			other := b
			other.Heat = randomSpan(r, many(), span(-1000, 1000))
			rate, e := beat.Rate(c, b)
			if e != api.OK {
				t.Fatal(c, b, e)
			}
			expectRate(t, c, other, rate)
			change, _ := beat.Change(c, b, b)
			expectChange(t, c, b, other, change)
			low, high, _ := beat.Ends(c, other)
			if low.Heat != other.Heat.Low || high.Heat != other.Heat.Low {
				t.Errorf("%v: the Ends have the heats %d and %d", other, low.Heat, high.Heat)
			}
			x := setting{c, b}.truth(r)
			exact, _ := beat.Exact(c, x)
			x.Heat = -x.Heat
			expectExact(t, c, x, exact)
		}
	}
}
