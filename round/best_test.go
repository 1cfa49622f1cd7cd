package round_test

import (
	"slices"
	"testing"

	"turret/api"
	"turret/round"
)

// P11.3

func TestBestOfExamples(t *testing.T) {
	r := example()
	expectBest(t, r, 0, numbers(0, 1), 130, 0, rest, 1)
	expectBest(t, r, 0, numbers(1, 0), 130, 0, rest, 1)
	expectBest(t, r, 1, numbers(1), 85, 1, rest)
	expectBest(t, r, 0, numbers(0), 50, 0)
	expectBest(t, r, 0, numbers(1), 70, 1)
	expectBestError(t, r, 1, numbers(0), api.ErrNone)
	expectBestError(t, r, 1, numbers(0, 1), api.ErrNone)
}

func TestBestForNoTowers(t *testing.T) {
	for _, r := range goodRules() {
		for winder := range r.Winders {
			expectBest(t, r, winder, nil, 0)
		}
	}
}

// As many towers as are allowed, and one more.
func TestBestForManyTowers(t *testing.T) {
	r := even(8, 2)
	expectBest(t, r, 0, numbers(7), 25, 7)
	expectBest(t, r, 1, numbers(7, 5), 40, 5, 7)
	expectBest(t, r, 0, numbers(0, 1, 2, 3, 4), 85, 0, 1, 2, 3, 4)
	expectBest(t, r, 1, numbers(7, 3, 6, 5, 4), 85, 3, 4, 5, 6, 7)
	expectBestError(t, r, 0, numbers(0, 1, 2, 3, 4, 5), api.ErrLong)
	expectBestError(t, r, 0, numbers(0, 1, 2, 3, 4, 5, 6, 7), api.ErrLong)
	r.Winders[0].Run = 15
	expectBest(t, r, 0, numbers(7, 3, 6, 5, 4), 110, 3, rest, 4, rest, 5, rest, 6, rest, 7, rest)
	expectBest(t, r, 0, numbers(2), 30, 2, rest)
}

// The quickest order, though another one is smaller; ways back differ.
func TestBestFindsTheOrder(t *testing.T) {
	r := edited(even(3, 1), func(r *api.RoundRules) {
		r.Ways = [][]int{{0, 40, 40, 1}, {40, 0, 1, 40}, {1, 40, 0, 40}, {40, 1, 40, 0}}
	})
	expectBest(t, r, 0, numbers(0, 1, 2), 19, 1, 2, 0)
	r.Ways = [][]int{{0, 1, 40, 40}, {40, 0, 1, 40}, {40, 40, 0, 1}, {1, 40, 40, 0}}
	expectBest(t, r, 0, numbers(0, 1, 2), 19, 0, 1, 2)
	r.Ways = [][]int{{0, 40, 40, 40}, {1, 0, 40, 40}, {40, 1, 0, 40}, {40, 40, 1, 0}}
	expectBest(t, r, 0, numbers(0, 1, 2), 58, 2, 1, 0)
	// The way home decides.
	r.Ways = [][]int{{0, 5, 5, 9}, {5, 0, 5, 5}, {5, 5, 0, 9}, {5, 5, 5, 0}}
	expectBest(t, r, 0, numbers(0, 1, 2), 35, 0, 2, 1)
	// The way to a tower is shorter over another tower than without it, but the other one is not to be wound.
	r.Ways = [][]int{{0, 1, 1, 1}, {1, 0, 1, 1}, {1, 1, 0, 1}, {1, 100, 1, 0}}
	expectBest(t, r, 0, numbers(1), 106, 1)
	expectBest(t, r, 0, numbers(1, 2), 13, 2, 1)
}

// Of equal rounds the smallest list: a rest is below all towers.
func TestBestOfEqualRounds(t *testing.T) {
	r := even(3, 1)
	expectBest(t, r, 0, numbers(2, 0, 1), 55, 0, 1, 2)
	with := func(run int) api.RoundRules {
		return edited(r, func(r *api.RoundRules) { r.Winders[0].Run = run })
	}
	expectBest(t, with(55), 0, numbers(2, 0, 1), 55, 0, 1, 2)
	expectBest(t, with(54), 0, numbers(2, 0, 1), 60, 0, rest, 1, 2)
	expectBest(t, with(40), 0, numbers(2, 0, 1), 60, 0, rest, 1, 2)
	expectBest(t, with(39), 0, numbers(2, 0, 1), 60, 0, 1, rest, 2)
	expectBest(t, with(30), 0, numbers(2, 0, 1), 60, 0, 1, rest, 2)
	expectBest(t, with(29), 0, numbers(2, 0, 1), 65, 0, rest, 1, rest, 2)
	expectBest(t, with(25), 0, numbers(2, 0, 1), 65, 0, rest, 1, rest, 2)
	expectBest(t, with(24), 0, numbers(2, 0, 1), 70, 0, rest, 1, rest, 2, rest)
	expectBestError(t, with(14), 0, numbers(2, 0, 1), api.ErrNone)

	// The way home is so long that only a rest at the end helps.
	r = edited(r, func(r *api.RoundRules) {
		r.Ways[0][3], r.Ways[1][3], r.Ways[2][3] = 50, 50, 50
		r.Winders[0].Run = 50
	})
	expectBest(t, r, 0, numbers(2, 0, 1), 100, 0, 1, 2, rest)
}

// Work of no minutes at all: a rest does not help, and all orders are equal.
func TestBestWithoutWork(t *testing.T) {
	r := edited(even(5, 1), func(r *api.RoundRules) {
		r.Towers, r.Ways = slices.Repeat([]api.RoundTower{{Goes: 1}}, 5), ways(5, 0)
		r.Winders[0].Run, r.Winders[0].Shift = 1, 1
	})
	expectBest(t, r, 0, numbers(4, 3, 2, 1, 0), 0, 0, 1, 2, 3, 4)
	r.Ways[5][2] = 1
	expectBest(t, r, 0, numbers(4, 3, 2, 1, 0), 0, 0, 1, 2, 3, 4)
	r.Ways[0][5], r.Ways[1][5], r.Ways[3][5], r.Ways[4][5] = 1, 1, 1, 1
	expectBest(t, r, 0, numbers(4, 3, 2, 1, 0), 0, 0, 1, 3, 4, 2)
	r.Ways[2][5] = 1
	expectBest(t, r, 0, numbers(4, 3, 2, 1, 0), 1, 0, 1, 2, 3, 4)
}

// The order with less work needs two rests, the other one a single rest.
func TestBestCountsTheRests(t *testing.T) {
	r := edited(even(2, 1), func(r *api.RoundRules) {
		r.Towers = slices.Repeat([]api.RoundTower{{Goes: 1}}, 2)
		r.Ways = [][]int{{0, 40, 51}, {2, 0, 30}, {30, 50, 0}}
	})
	with := func(run, rest int) api.RoundRules {
		return edited(r, func(r *api.RoundRules) { r.Winders[0].Run, r.Rest = run, rest })
	}
	expectBest(t, with(100, 5), 0, numbers(0, 1), 100, 0, 1)
	expectBest(t, with(52, 5), 0, numbers(0, 1), 108, 1, 0, rest)
	expectBest(t, with(52, 4), 0, numbers(0, 1), 107, 1, 0, rest)
	expectBest(t, with(52, 3), 0, numbers(0, 1), 106, 0, rest, 1, rest)
	expectBest(t, with(52, 1), 0, numbers(0, 1), 102, 0, rest, 1, rest)
	expectBest(t, with(51, 5), 0, numbers(0, 1), 110, 0, rest, 1, rest)
	expectBest(t, with(70, 5), 0, numbers(0, 1), 105, 0, rest, 1)
	expectBest(t, with(69, 5), 0, numbers(0, 1), 108, 1, rest, 0)
}

// Rests are needed, but there is no time for them; or they do not help.
func TestBestWithoutARound(t *testing.T) {
	r := edited(even(2, 1), func(r *api.RoundRules) { r.Winders[0].Run, r.Winders[0].Shift = 30, 45 })
	expectBest(t, r, 0, numbers(0, 1), 45, 0, rest, 1)
	r.Winders[0].Shift = 44
	expectBestError(t, r, 0, numbers(0, 1), api.ErrNone)
	expectBest(t, r, 0, numbers(1), 25, 1)
	r.Winders[0].Shift = 24
	expectBestError(t, r, 0, numbers(1), api.ErrNone)
	r.Winders[0].Shift, r.Winders[0].Run = 1440, 14
	expectBestError(t, r, 0, numbers(1), api.ErrNone)
	expectBest(t, r, 0, nil, 0)
	r.Winders[0].Run, r.Winders[0].Oil = 100, 1
	expectBestError(t, r, 0, numbers(1, 0), api.ErrNone)
	expectBest(t, r, 0, numbers(1), 25, 1)
	r.Towers[0].Keys, r.Winders[0].Keys = 6, 5
	expectBestError(t, r, 0, numbers(0), api.ErrNone)
	expectBest(t, r, 0, numbers(1), 25, 1)
}

func TestBestOfRounds(t *testing.T) {
	x := seeded(2)
	none, rested := 0, map[int]int{}
	for i := range 4000 {
		r := randomRules(x, from(x, 1, 8), from(x, 1, 4))
		towers := some(x, r, x.IntN(min(len(r.Towers), 3+i%40/38*2)+1))
		winder := x.IntN(len(r.Winders))
		steps, minutes, found := quickest(r, winder, towers)
		if !found {
			none++
			expectBestError(t, r, winder, towers, api.ErrNone)
			continue
		}
		rested[rests(steps)]++
		expectBest(t, r, winder, towers, minutes, steps...)
	}
	if none < 200 || rested[0] < 200 || rested[1] < 200 || rested[2] < 20 {
		t.Errorf("%d have no round, and by rests there are %v", none, rested)
	}
}

func TestErrorsOfBest(t *testing.T) {
	r := even(8, 2)
	long := numbers(0, 1, 2, 3, 4, 5)
	for _, winder := range append(wild(), -2, -1, 2, 3) {
		for _, towers := range [][]int{nil, {0}, {9}, {1, 1}, long} {
			expectBestError(t, r, winder, towers, api.ErrNone)
		}
	}
	for _, n := range append(wild(), -2, -1, 8, 9) {
		expectBestError(t, r, 0, numbers(n), api.ErrArg)
		expectBestError(t, r, 0, numbers(1, 1, n), api.ErrArg)
		expectBestError(t, r, 0, numbers(n, n), api.ErrArg)
		expectBestError(t, r, 0, numbers(0, 1, n, 2, 3), api.ErrArg)
		expectBestError(t, r, 0, append(numbers(n), long...), api.ErrLong)
	}
	expectBestError(t, even(2, 1), 0, numbers(2), api.ErrArg)
	expectBestError(t, r, 1, slices.Repeat(numbers(1), 6), api.ErrLong)
	expectBestError(t, r, 1, slices.Repeat(numbers(9), 6), api.ErrLong)
	expectBestError(t, r, 1, numbers(3, 3), api.ErrTwice)
	expectBestError(t, r, 1, numbers(3, 0, 3), api.ErrTwice)
	expectBestError(t, r, 1, numbers(7, 1, 2, 3, 7), api.ErrTwice)
	r.Winders[1].Run = 1
	expectBestError(t, r, 1, numbers(3, 3), api.ErrTwice)
	expectBestError(t, r, 1, numbers(3), api.ErrNone)
}

// P11.7

func TestBestKeepsTheLawAndIsQuickest(t *testing.T) {
	x := seeded(3)
	kept, equal := 0, 0
	for range 3000 {
		r := randomRules(x, from(x, 1, 8), 1)
		towers := some(x, r, x.IntN(min(len(r.Towers), 5)+1))
		steps, minutes, e := round.Best(r, 0, towers)
		if e == api.OK {
			expectWalk(t, r, trip(0, steps...), minutes, minutes*r.Wage)
			sorted := slices.Sorted(slices.Values(steps))
			if !slices.Equal(sorted[rests(steps):], slices.Sorted(slices.Values(towers))) {
				t.Errorf("Best(%+v, 0, %v) = %v", r, towers, steps)
			}
		}
		for range 20 {
			x.Shuffle(len(towers), func(i, k int) { towers[i], towers[k] = towers[k], towers[i] })
			other := randomSteps(towers, x.IntN)
			m, wage, _, err := round.Walk(r, trip(0, other...))
			if err != api.OK {
				continue
			}
			kept++
			if wage != m*r.Wage {
				t.Errorf("Walk(%+v, %v) = %d, %d", r, other, m, wage)
			}
			if m == minutes {
				equal++
			}
			if e != api.OK || m < minutes || m == minutes && slices.Compare(other, steps) < 0 {
				t.Fatalf("Best(%+v, 0, %v) = %v, %d, %v; but %v takes %d", r, towers, steps, minutes, e, other, m)
			}
		}
	}
	if kept < 2000 || equal < 500 {
		t.Errorf("only %d rounds keep the law, and %d are as quick", kept, equal)
	}
}
