package round_test

import (
	"slices"
	"testing"

	"turret/api"
	"turret/round"
)

// P11.4

func TestFewestOfExamples(t *testing.T) {
	expectFewest(t, example(), numbers(0, 1), 130, trip(0, 0, rest, 1))
	expectFewest(t, example(), numbers(1, 0), 130, trip(0, 0, rest, 1))
	expectFewest(t, example(), numbers(1), 70, trip(0, 1))
	expectFewest(t, example(), numbers(0), 50, trip(0, 0))
}

func TestFewestForNoTowers(t *testing.T) {
	for _, r := range goodRules() {
		expectFewest(t, r, nil, 0)
	}
}

// One winder can do all, each of them or one alone.
func TestFewestOfOneWinder(t *testing.T) {
	all := numbers(4, 7, 0, 2, 1)
	expectFewest(t, even(8, 4), all, 85, trip(0, 0, 1, 2, 4, 7))
	expectFewest(t, even(8, 1), all, 85, trip(0, 0, 1, 2, 4, 7))
	for winder := range 4 {
		r := edited(even(8, 4), func(r *api.RoundRules) {
			for i := range r.Winders {
				r.Winders[i].Oil = 4
			}
			r.Winders[winder].Oil = 5
		})
		expectFewest(t, r, all, 85, trip(winder, 0, 1, 2, 4, 7))
	}
}

// Each winder is needed: for the key, or for the oil.
func TestFewestOfAllWinders(t *testing.T) {
	r := edited(even(5, 4), func(r *api.RoundRules) {
		for i := range r.Winders {
			r.Winders[i].Keys, r.Towers[3-i].Keys = 1<<i, 1<<i
		}
	})
	expectFewest(t, r, numbers(0, 1, 2, 3), 100, trip(0, 3), trip(1, 2), trip(2, 1), trip(3, 0))
	expectFewest(t, r, numbers(0, 1, 2, 3, 4), 115, trip(0, 3), trip(1, 2), trip(2, 1), trip(3, 0, 4))
	expectFewest(t, r, numbers(0, 2), 50, trip(1, 2), trip(3, 0))
	r.Towers[4].Keys = 4
	expectFewest(t, r, numbers(0, 1, 2, 3, 4), 115, trip(0, 3), trip(1, 2), trip(2, 1, 4), trip(3, 0))
	r.Towers[4].Keys = 5
	expectFewestError(t, r, numbers(0, 1, 2, 3, 4), api.ErrNone)

	r = edited(even(5, 4), func(r *api.RoundRules) {
		for i := range r.Winders {
			r.Winders[i].Oil = 1
		}
	})
	expectFewest(t, r, numbers(4, 3, 2, 1), 100, trip(0, 1), trip(1, 2), trip(2, 3), trip(3, 4))
	expectFewestError(t, r, numbers(4, 3, 2, 1, 0), api.ErrNone)
	r.Winders[2].Oil = 2
	expectFewest(t, r, numbers(4, 3, 2, 1, 0), 115, trip(0, 0), trip(1, 1), trip(2, 2, 3), trip(3, 4))
	expectFewest(t, r, numbers(4, 3, 2, 1), 90, trip(0, 1), trip(1, 2), trip(2, 3, 4))
}

// Fewer rounds are better, though they take more minutes.
func TestFewestTakesFewRounds(t *testing.T) {
	r := edited(even(2, 2), func(r *api.RoundRules) { r.Ways[0][1], r.Ways[1][0] = 1000, 1000 })
	expectFewest(t, r, numbers(0, 1), 1030, trip(0, 0, 1))
	r.Winders[0].Run = 1015
	expectFewest(t, r, numbers(0, 1), 1030, trip(1, 0, 1))
	r.Winders[1].Run = 1015
	expectFewest(t, r, numbers(0, 1), 1035, trip(0, 0, rest, 1))
	r.Winders[0].Run, r.Winders[1].Run = 1005, 1005
	expectFewest(t, r, numbers(0, 1), 1040, trip(0, 0, rest, 1, rest))
	r.Winders[0].Run, r.Winders[1].Run = 1004, 1004
	expectFewest(t, r, numbers(0, 1), 50, trip(0, 0), trip(1, 1))
}

// Of as few rounds those with the fewest minutes, then the smallest winders, then the smallest steps.
func TestFewestOfEqualRounds(t *testing.T) {
	with := func(runs ...int) api.RoundRules {
		return edited(even(3, len(runs)), func(r *api.RoundRules) {
			for i, run := range runs {
				r.Winders[i].Run = run
			}
		})
	}
	// By minutes: the later winder needs fewer rests.
	expectFewest(t, with(40, 54, 55), numbers(0, 1, 2), 55, trip(2, 0, 1, 2))
	expectFewest(t, with(29, 40, 50), numbers(0, 1, 2), 60, trip(1, 0, rest, 1, 2))
	expectFewest(t, with(29, 39, 39), numbers(0, 1, 2), 60, trip(1, 0, 1, rest, 2))
	// By winders, though the steps of the later one are smaller.
	expectFewest(t, with(39, 40, 40), numbers(0, 1, 2), 60, trip(0, 0, 1, rest, 2))
	expectFewest(t, with(55, 55, 55), numbers(0, 1, 2), 55, trip(0, 0, 1, 2))

	oil := func(oil ...int) api.RoundRules {
		return edited(even(4, len(oil)), func(r *api.RoundRules) {
			for i, n := range oil {
				r.Winders[i].Oil = n
			}
		})
	}
	expectFewest(t, oil(2, 2, 2, 2), numbers(0, 1, 2), 65, trip(0, 0), trip(1, 1, 2))
	expectFewest(t, oil(2, 2, 2, 2), numbers(0, 1, 2, 3), 80, trip(0, 0, 1), trip(1, 2, 3))
	expectFewest(t, oil(0, 2, 0, 2), numbers(0, 1, 2), 65, trip(1, 0), trip(3, 1, 2))
	expectFewest(t, oil(1, 2, 2, 3), numbers(0, 1, 2, 3), 80, trip(0, 0), trip(3, 1, 2, 3))
	expectFewest(t, oil(1, 1, 1, 2), numbers(0, 1, 2), 65, trip(0, 0), trip(3, 1, 2))
	expectFewest(t, oil(2, 1, 1, 1), numbers(0, 1, 2), 65, trip(0, 0, 1), trip(1, 2))
	expectFewest(t, oil(1, 1, 1, 1), numbers(3, 1), 50, trip(0, 1), trip(1, 3))

	// By steps: the first round's are smallest, though they are longer than others.
	r := edited(oil(2, 2), func(r *api.RoundRules) { r.Winders[0].Run = 29 })
	expectFewest(t, r, numbers(0, 1, 2), 65, trip(0, 0), trip(1, 1, 2))
	r.Winders[1].Run = 24
	expectFewest(t, r, numbers(0, 1, 2), 75, trip(0, 0), trip(1, 1, rest, 2, rest))
	expectFewest(t, edited(r, func(r *api.RoundRules) { r.Winders[1].Oil = 1 }), numbers(0, 1, 2), 75, trip(0, 0, rest, 1), trip(1, 2, rest))
}

// A tower that is far away for one winder alone: with rests each round has other minutes.
func TestFewestTakesFewMinutes(t *testing.T) {
	r := edited(even(2, 2), func(r *api.RoundRules) {
		r.Winders[0].Oil, r.Winders[1].Oil = 1, 1
		r.Winders[0].Run, r.Winders[1].Run = 50, 1440
		r.Ways[2][0], r.Rest = 45, 100
	})
	expectFewest(t, r, numbers(0, 1), 85, trip(0, 1), trip(1, 0))
	r.Winders[0].Run = 60
	expectFewest(t, r, numbers(0, 1), 85, trip(0, 0), trip(1, 1))
	r.Winders[0].Run, r.Winders[1].Run = 59, 59
	expectFewest(t, r, numbers(0, 1), 185, trip(0, 0, rest), trip(1, 1))
	r.Winders[1].Shift = 159
	expectFewest(t, r, numbers(0, 1), 185, trip(0, 0, rest), trip(1, 1))
	r.Winders[0].Shift = 159
	expectFewestError(t, r, numbers(0, 1), api.ErrNone)
	r.Winders[1].Shift = 160
	expectFewest(t, r, numbers(0, 1), 185, trip(0, 1), trip(1, 0, rest))
}

// scarce leaves the winders of rules so little oil that several are needed, but all keys.
func scarce(x interface{ IntN(int) int }, r api.RoundRules) {
	for i := range r.Winders {
		r.Winders[i].Oil, r.Winders[i].Keys = 2+x.IntN(4), 3
	}
}

func TestFewestOfRounds(t *testing.T) {
	x := seeded(4)
	seen := map[int]int{}
	for range 1500 {
		r := randomRules(x, from(x, 1, 8), from(x, 1, 4))
		if x.IntN(3) > 0 {
			scarce(x, r)
		}
		towers := some(x, r, x.IntN(min(len(r.Towers), 4)+1))
		want, minutes, found := fewest(r, towers, func(winder int, towers []int) ([]int, int, bool) {
			return quickest(r, winder, towers)
		})
		if !found {
			seen[-1]++
			expectFewestError(t, r, towers, api.ErrNone)
			continue
		}
		seen[len(want)]++
		expectFewest(t, r, towers, minutes, want...)
	}
	if seen[-1] < 100 || seen[1] < 100 || seen[2] < 100 || seen[3] < 10 {
		t.Errorf("by rounds there are %v", seen)
	}
}

func TestErrorsOfFewest(t *testing.T) {
	r := even(8, 2)
	long := numbers(0, 1, 2, 3, 4, 5)
	expectFewestError(t, r, long, api.ErrLong)
	expectFewestError(t, r, numbers(0, 1, 2, 3, 4, 5, 6, 7), api.ErrLong)
	for _, n := range append(wild(), -2, -1, 8, 9) {
		expectFewestError(t, r, numbers(n), api.ErrArg)
		expectFewestError(t, r, numbers(1, 1, n), api.ErrArg)
		expectFewestError(t, r, numbers(n, n), api.ErrArg)
		expectFewestError(t, r, numbers(0, 1, n, 2, 3), api.ErrArg)
		expectFewestError(t, r, append(numbers(n), long...), api.ErrLong)
	}
	expectFewestError(t, r, slices.Repeat(numbers(1), 6), api.ErrLong)
	expectFewestError(t, r, numbers(3, 3), api.ErrTwice)
	expectFewestError(t, r, numbers(7, 1, 2, 3, 7), api.ErrTwice)
	r.Winders[0].Run, r.Winders[1].Run = 14, 14
	expectFewestError(t, r, numbers(3, 3), api.ErrTwice)
	expectFewestError(t, r, numbers(3), api.ErrNone)
	expectFewest(t, r, nil, 0)
}

// P11.8

func TestFewestKeepTheLawAndAreFewest(t *testing.T) {
	x := seeded(5)
	several := 0
	for range 300 {
		r := randomRules(x, from(x, 3, 8), from(x, 1, 4))
		scarce(x, r)
		towers := some(x, r, from(x, 0, min(len(r.Towers), 5)))
		list, minutes, e := round.Fewest(r, towers)
		want, all, found := fewest(r, towers, func(winder int, towers []int) ([]int, int, bool) {
			steps, minutes, e := round.Best(r, winder, towers)
			return steps, minutes, e == api.OK
		})
		if found != (e == api.OK) || !equalTrips(list, want) || minutes != all {
			t.Fatalf("Fewest(%+v, %v) = %v, %d, %v; want %v, %d", r, towers, list, minutes, e, want, all)
		}
		var wound []int
		together, last := 0, -1
		for _, a := range list {
			m, _, _, err := round.Walk(r, a)
			if err != api.OK || a.Winder <= last || len(a.Steps) == rests(a.Steps) {
				t.Errorf("Fewest(%+v, %v) has the round %v: %v", r, towers, a, err)
			}
			together, last = together+m, a.Winder
			wound = append(wound, slices.DeleteFunc(slices.Clone(a.Steps), func(step int) bool { return step == rest })...)
		}
		if len(list) > 1 {
			several++
		}
		if together != minutes || e == api.OK && !slices.Equal(slices.Sorted(slices.Values(wound)), slices.Sorted(slices.Values(towers))) {
			t.Errorf("Fewest(%+v, %v) = %v, %d", r, towers, list, minutes)
		}
	}
	if several < 50 {
		t.Errorf("only %d need several winders", several)
	}
}

// P11.9

// easier returns rules that are easier in one way, or in some.
func easier(x interface{ IntN(int) int }, r api.RoundRules) api.RoundRules {
	r = clone(r)
	for {
		winder := &r.Winders[x.IntN(len(r.Winders))]
		i, k := x.IntN(len(r.Ways)), x.IntN(len(r.Ways))
		switch x.IntN(6) {
		case 0:
			winder.Shift = min(1440, winder.Shift+1+x.IntN(20))
		case 1:
			winder.Run = min(1440, winder.Run+1+x.IntN(10))
		case 2:
			winder.Keys |= 1 << x.IntN(3)
		case 3:
			winder.Oil += 1 + x.IntN(5)
		case 4:
			r.Rest = max(1, r.Rest-1-x.IntN(3))
		case 5:
			r.Ways[i][k] = max(0, r.Ways[i][k]-1-x.IntN(4))
		}
		if x.IntN(2) == 0 {
			return r
		}
	}
}

func TestEasierRulesTakeNoLonger(t *testing.T) {
	x := seeded(6)
	quicker, new, fewer := 0, 0, 0
	for range 3000 {
		r := randomRules(x, from(x, 1, 6), from(x, 1, 4))
		if x.IntN(2) == 0 {
			scarce(x, r)
		}
		towers := some(x, r, x.IntN(min(len(r.Towers), 5)+1))
		light := easier(x, r)
		for winder := range r.Winders {
			steps, minutes, e := round.Best(r, winder, towers)
			better, least, err := round.Best(light, winder, towers)
			switch {
			case e == api.OK && (err != api.OK || least > minutes):
				t.Errorf("Best(%+v, %d, %v) = %v, %d, but with %+v it is %v, %d, %v", r, winder, towers, steps, minutes, light, better, least, err)
			case e == api.OK && least < minutes:
				quicker++
			case e != api.OK && err == api.OK:
				new++
			}
		}
		list, _, e := round.Fewest(r, towers)
		better, _, err := round.Fewest(light, towers)
		if e == api.OK && (err != api.OK || len(better) > len(list)) {
			t.Errorf("Fewest(%+v, %v) = %v, but with %+v it is %v, %v", r, towers, list, light, better, err)
		}
		if e == api.OK && len(better) < len(list) {
			fewer++
		}
	}
	if quicker < 200 || new < 100 || fewer < 20 {
		t.Errorf("%d rounds became quicker, %d possible, and %d lists shorter", quicker, new, fewer)
	}
}
