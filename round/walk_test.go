package round_test

import (
	"slices"
	"testing"

	"turret/api"
	"turret/round"
)

// P11.2

func TestWalkOfExamples(t *testing.T) {
	r := example()
	expectWalkError(t, r, trip(0, 0, 1), 2, api.ErrRun)
	expectWalk(t, r, trip(0, 0, 1, rest), 130, 260)
	expectWalk(t, r, trip(0, 0, rest, 1), 130, 260)
	expectWalkError(t, r, trip(0, rest, 0, 1), 3, api.ErrRun)
	expectWalk(t, r, trip(0, rest, 0, rest, 1, rest), 160, 320)
	expectWalkError(t, r, trip(1, 1), 1, api.ErrRun)
	expectWalk(t, r, trip(1, 1, rest), 85, 170)
}

func TestWalkWithoutSteps(t *testing.T) {
	for _, r := range goodRules() {
		for winder := range r.Winders {
			expectWalk(t, r, trip(winder), 0, 0)
		}
	}
}

// A rest at the beginning, at the end, and one after another; also without any work.
func TestWalkWithRests(t *testing.T) {
	r := edited(even(3, 1), func(r *api.RoundRules) { r.Wage, r.Rest = 3, 7 })
	expectWalk(t, r, trip(0, 1), 25, 75)
	expectWalk(t, r, trip(0, rest, 1), 32, 96)
	expectWalk(t, r, trip(0, 1, rest), 32, 96)
	expectWalk(t, r, trip(0, 1, rest, rest), 39, 117)
	expectWalk(t, r, trip(0, rest, rest, 1, rest, rest, 2, rest, rest), 82, 246)
	expectWalk(t, r, trip(0, rest), 7, 21)
	expectWalk(t, r, trip(0, rest, rest, rest), 21, 63)
	expectWalk(t, r, trip(0, 2, 0, 1), 55, 165)
	expectWalk(t, r, trip(0, 2, rest, 0, 1), 62, 186)
}

// Each way goes from where the last tower is, also after a rest; the way back may take longer.
func TestWalkTakesEachWay(t *testing.T) {
	r := edited(even(2, 1), func(r *api.RoundRules) {
		r.Ways = [][]int{{0, 1, 20}, {300, 0, 4}, {5, 60, 0}}
		r.Towers[0].Climb, r.Towers[0].Wind, r.Towers[1].Climb, r.Towers[1].Wind = 0, 0, 0, 0
	})
	expectWalk(t, r, trip(0, 0), 25, 25)
	expectWalk(t, r, trip(0, 1), 64, 64)
	expectWalk(t, r, trip(0, 0, 1), 10, 10)
	expectWalk(t, r, trip(0, 1, 0), 380, 380)
	expectWalk(t, r, trip(0, rest, 0, rest, 1, rest), 25, 25)
	r.Towers[0].Climb, r.Towers[0].Wind, r.Towers[1].Climb, r.Towers[1].Wind = 2, 30, 40, 100
	expectWalk(t, r, trip(0, 0), 57, 57)
	expectWalk(t, r, trip(0, 1), 204, 204)
	expectWalk(t, r, trip(0, 0, 1), 182, 182)
}

func TestWalkPaysTheWage(t *testing.T) {
	for _, wage := range numbers(0, 1, 7, 1000) {
		r := edited(example(), func(r *api.RoundRules) { r.Wage = wage })
		expectWalk(t, r, trip(0, 1), 70, 70*wage)
		expectWalk(t, r, trip(0, 0, rest, 1), 130, 130*wage)
	}
}

func TestWalkOfWinders(t *testing.T) {
	r := example()
	for _, winder := range append(wild(), -2, -1, 2, 3, 4) {
		expectWalkError(t, r, trip(winder), 0, api.ErrNone)
		expectWalkError(t, r, trip(winder, 1, rest), 0, api.ErrNone)
		expectWalkError(t, r, trip(winder, 7, 1), 0, api.ErrNone)
		expectWalkError(t, r, trip(winder, make([]int, 41)...), 0, api.ErrNone)
	}
	expectWalk(t, even(2, 4), trip(3, 1), 25, 25)
	expectWalkError(t, even(2, 4), trip(4, 1), 0, api.ErrNone)
}

// No step of a list that is too long is looked at.
func TestWalkOfManySteps(t *testing.T) {
	r := edited(even(2, 1), func(r *api.RoundRules) { r.Rest = 36 })
	expectWalk(t, r, trip(0, slices.Repeat(numbers(rest), 40)...), 1440, 1440)
	expectWalkError(t, r, trip(0, slices.Repeat(numbers(rest), 41)...), 0, api.ErrLong)
	r.Rest = 1
	steps := append(slices.Repeat(numbers(rest), 39), 1)
	expectWalk(t, r, trip(0, steps...), 64, 64)
	expectWalkError(t, r, trip(0, append(steps, 0)...), 0, api.ErrLong)
	expectWalkError(t, r, trip(0, append(steps, rest)...), 0, api.ErrLong)
	expectWalkError(t, r, trip(0, slices.Repeat(numbers(9), 41)...), 0, api.ErrLong)
	expectWalkError(t, r, trip(0, slices.Repeat(numbers(9), 40)...), 0, api.ErrArg)
	expectWalkError(t, r, trip(0, slices.Repeat(numbers(1), 1000)...), 0, api.ErrLong)
	expectWalkError(t, r, trip(0, slices.Concat(slices.Repeat(numbers(rest), 39), numbers(2))...), 39, api.ErrArg)
}

func TestWalkOfAllTowers(t *testing.T) {
	expectWalk(t, even(8, 1), trip(0, 7, 6, 5, 4, 3, 2, 1, 0), 130, 130)
	expectWalkError(t, even(8, 1), trip(0, 7, 6, 5, 4, 3, 2, 1, 0, 4), 8, api.ErrTwice)
}

func TestWalkOfSteps(t *testing.T) {
	for _, step := range append(wild(), -2, -3, 3, 4, 8) {
		expectWalkError(t, even(3, 1), trip(0, step), 0, api.ErrArg)
		expectWalkError(t, even(3, 1), trip(0, rest, 1, step, 1), 2, api.ErrArg)
	}
}

func TestWalkToATowerTwice(t *testing.T) {
	r := even(3, 1)
	expectWalkError(t, r, trip(0, 1, 1), 1, api.ErrTwice)
	expectWalkError(t, r, trip(0, 0, 2, 0, 9), 2, api.ErrTwice)
	expectWalkError(t, r, trip(0, 1, rest, 1), 2, api.ErrTwice)
	expectWalkError(t, r, trip(0, rest, rest, 2, 1, 0, rest, 2), 6, api.ErrTwice)
}

// A winder may have more keys than a tower needs, but not fewer.
func TestWalkWithKeys(t *testing.T) {
	with := func(winder, tower uint16) api.RoundRules {
		return edited(even(2, 1), func(r *api.RoundRules) { r.Winders[0].Keys, r.Towers[1].Keys = winder, tower })
	}
	for i := range 16 {
		bit := uint16(1 << i)
		expectWalk(t, with(bit, bit), trip(0, 0, 1), 40, 40)
		expectWalk(t, with(0xffff, bit), trip(0, 0, 1), 40, 40)
		expectWalk(t, with(bit, 0), trip(0, 0, 1), 40, 40)
		expectWalkError(t, with(^bit, bit), trip(0, 0, 1), 1, api.ErrKeys)
		expectWalkError(t, with(^bit, 0xffff), trip(0, 0, 1), 1, api.ErrKeys)
		expectWalkError(t, with(bit, 0xffff), trip(0, 1), 0, api.ErrKeys)
	}
	expectWalk(t, with(0, 0), trip(0, 0, 1), 40, 40)
	expectWalk(t, with(6, 2), trip(0, rest, 1), 30, 30)
	expectWalkError(t, with(6, 3), trip(0, rest, 1, 9), 1, api.ErrKeys)
	expectWalk(t, with(6, 3), trip(0, rest, 0), 30, 30)
}

// The oil of all towers counts, whatever rests there are.
func TestWalkWithOil(t *testing.T) {
	with := func(oil int) api.RoundRules {
		return edited(even(3, 1), func(r *api.RoundRules) {
			r.Winders[0].Oil, r.Towers[0].Oil, r.Towers[1].Oil, r.Towers[2].Oil = oil, 1000, 5, 200
		})
	}
	expectWalk(t, with(1205), trip(0, 0, 1, 2), 55, 55)
	expectWalkError(t, with(1204), trip(0, 0, 1, 2), 2, api.ErrOil)
	expectWalkError(t, with(1204), trip(0, 2, rest, 1, rest, 0, 0), 4, api.ErrOil)
	expectWalk(t, with(205), trip(0, 2, rest, 1), 45, 45)
	expectWalkError(t, with(205), trip(0, 2, rest, 1, 0), 3, api.ErrOil)
	expectWalkError(t, with(204), trip(0, 1, rest, 2, rest), 2, api.ErrOil)
	expectWalk(t, with(5), trip(0, 1), 25, 25)
	expectWalkError(t, with(4), trip(0, 1), 0, api.ErrOil)
	expectWalk(t, edited(with(0), func(r *api.RoundRules) { r.Towers[1].Oil = 0 }), trip(0, 1), 25, 25)
}

// Work just as long as Run, and one minute longer.
func TestWalkWithinTheRun(t *testing.T) {
	with := func(run int) api.RoundRules {
		return edited(even(3, 1), func(r *api.RoundRules) { r.Winders[0].Run = run })
	}
	expectWalk(t, with(55), trip(0, 0, 1, 2), 55, 55)
	expectWalkError(t, with(54), trip(0, 0, 1, 2), 3, api.ErrRun)
	expectWalkError(t, with(45), trip(0, 0, 1, 2), 3, api.ErrRun)
	expectWalkError(t, with(44), trip(0, 0, 1, 2), 2, api.ErrRun)
	expectWalkError(t, with(44), trip(0, rest, rest, 0, 1, 2), 4, api.ErrRun)
	expectWalkError(t, with(14), trip(0, 0, 1, 2), 0, api.ErrRun)
	expectWalk(t, with(45), trip(0, 0, 1, 2, rest), 60, 60)
	expectWalk(t, with(30), trip(0, 0, 1, rest, 2), 60, 60)
	expectWalkError(t, with(29), trip(0, 0, 1, rest, 2), 1, api.ErrRun)
	expectWalk(t, with(40), trip(0, 0, rest, 1, 2), 60, 60)
	expectWalkError(t, with(39), trip(0, 0, rest, 1, 2), 4, api.ErrRun)
	expectWalk(t, with(25), trip(0, 0, rest, 1, rest, 2), 65, 65)
	expectWalkError(t, with(24), trip(0, 0, rest, 1, rest, 2), 5, api.ErrRun)
	expectWalk(t, with(15), trip(0, 0, rest, 1, rest, 2, rest), 70, 70)
	expectWalkError(t, with(14), trip(0, 0, rest, 1, rest, 2, rest), 0, api.ErrRun)
	expectWalk(t, with(1), trip(0, rest, rest), 10, 10)
}

// All minutes, with rests, just at Shift and one above it.
func TestWalkWithinTheShift(t *testing.T) {
	with := func(shift int) api.RoundRules {
		return edited(even(3, 1), func(r *api.RoundRules) { r.Winders[0].Shift = shift })
	}
	steps := numbers(rest, 0, rest, rest, 1, 2, rest)
	expectWalk(t, with(75), trip(0, steps...), 75, 75)
	for shift, at := range map[int]int{74: 7, 65: 7, 64: 6, 60: 6, 59: 5, 45: 5, 44: 4, 30: 4, 29: 3, 25: 3, 24: 2, 20: 2, 19: 1, 5: 1, 4: 0, 1: 0} {
		expectWalkError(t, with(shift), trip(0, steps...), at, api.ErrShift)
	}
	expectWalk(t, with(25), trip(0, 2), 25, 25)
	expectWalkError(t, with(24), trip(0, 2), 1, api.ErrShift)
	expectWalkError(t, with(9), trip(0, rest, rest), 1, api.ErrShift)
	expectWalk(t, with(10), trip(0, rest, rest), 10, 10)
}

// The way home can be too long for Run, for Shift, and for both.
func TestWalkHome(t *testing.T) {
	with := func(run, shift int) api.RoundRules {
		return edited(even(2, 1), func(r *api.RoundRules) {
			r.Winders[0].Run, r.Winders[0].Shift, r.Ways[1][2] = run, shift, 50
		})
	}
	expectWalk(t, with(80, 80), trip(0, 0, 1), 80, 80)
	expectWalkError(t, with(79, 80), trip(0, 0, 1), 2, api.ErrRun)
	expectWalkError(t, with(80, 79), trip(0, 0, 1), 2, api.ErrShift)
	expectWalkError(t, with(79, 79), trip(0, 0, 1), 2, api.ErrRun)
	expectWalk(t, with(50, 85), trip(0, 0, 1, rest), 85, 85)
	expectWalkError(t, with(49, 85), trip(0, 0, 1, rest), 3, api.ErrRun)
	expectWalkError(t, with(50, 84), trip(0, 0, 1, rest), 3, api.ErrShift)
	expectWalkError(t, with(49, 84), trip(0, 0, 1, rest), 3, api.ErrRun)
}

// Of several errors of one step the one that is named first; of several steps the first one.
func TestWalkNamesTheFirstError(t *testing.T) {
	r := edited(even(4, 1), func(r *api.RoundRules) {
		r.Towers[0].Keys, r.Winders[0].Keys = 1, 2
		r.Towers[0].Oil, r.Towers[1].Oil, r.Towers[2].Oil, r.Winders[0].Oil = 9, 9, 8, 8
		r.Ways[4][0], r.Ways[4][1], r.Ways[4][2], r.Ways[4][3] = 90, 90, 90, 60
		r.Ways[3] = numbers(90, 90, 90, 0, 0)
		r.Winders[0].Run, r.Winders[0].Shift = 70, 80
		r.Towers[3].Oil = 0
	})
	expectWalkError(t, r, trip(0, 3, 9), 1, api.ErrArg)
	expectWalkError(t, r, trip(0, 0), 0, api.ErrKeys)
	expectWalkError(t, r, trip(0, 1), 0, api.ErrOil)
	expectWalkError(t, r, trip(0, 2), 0, api.ErrRun)
	expectWalkError(t, r, trip(0, 3, 3), 1, api.ErrTwice)
	expectWalkError(t, r, trip(0, 3, 0, 3), 1, api.ErrKeys)
	expectWalkError(t, r, trip(0, 3, 1, 0), 1, api.ErrOil)
	expectWalkError(t, r, trip(0, 3, 2, 3, 9), 1, api.ErrRun)
	expectWalk(t, r, trip(0, 3, rest), 70, 70)
	expectWalkError(t, r, trip(0, 3, rest, rest, rest, rest), 4, api.ErrShift)
	expectWalkError(t, r, trip(0, rest, rest, rest, 3, 9), 4, api.ErrArg)
	expectWalkError(t, r, trip(0, rest, rest, rest, rest, 3, 9), 4, api.ErrShift)

	// The tower that was wound before lies too far away, and takes too much oil.
	r = edited(even(2, 1), func(r *api.RoundRules) {
		r.Towers[0].Oil, r.Winders[0].Oil = 5, 8
		r.Ways[1][0], r.Winders[0].Run, r.Winders[0].Shift = 1000, 100, 100
	})
	expectWalkError(t, r, trip(0, 0, 1, 0), 2, api.ErrTwice)
	r.Winders[0].Run = 1440
	expectWalkError(t, r, trip(0, 1, 0), 1, api.ErrShift)
	r.Winders[0].Oil = 5
	expectWalkError(t, r, trip(0, 1, 0), 1, api.ErrOil)
	r.Winders[0].Keys, r.Towers[0].Keys = 0, 1
	expectWalkError(t, r, trip(0, 1, 0), 1, api.ErrKeys)
}

// randomSteps returns steps that are mostly towers, each once, and rests.
func randomSteps(towers []int, chance func(int) int) (steps []int) {
	for _, tower := range towers {
		for chance(4) == 0 {
			steps = append(steps, rest)
		}
		steps = append(steps, tower)
	}
	for chance(3) == 0 {
		steps = append(steps, rest)
	}
	return steps
}

func TestWalkOfRounds(t *testing.T) {
	x := seeded(1)
	seen := map[api.Errno]int{}
	for range 20000 {
		r := randomRules(x, from(x, 1, 8), from(x, 1, 4))
		a := trip(x.IntN(len(r.Winders)), randomSteps(some(x, r, x.IntN(len(r.Towers)+1)), x.IntN)...)
		if n := len(a.Steps); n > 0 && x.IntN(4) == 0 {
			a.Steps[x.IntN(n)] = from(x, -2, 8)
		}
		minutes, wage, at, want := walked(r, a)
		seen[want]++
		if want == api.OK {
			expectWalk(t, r, a, minutes, wage)
		} else {
			expectWalkError(t, r, a, at, want)
		}
	}
	for _, e := range []api.Errno{api.OK, api.ErrArg, api.ErrTwice, api.ErrKeys, api.ErrOil, api.ErrRun, api.ErrShift} {
		if seen[e] < 100 {
			t.Errorf("%v was seen only %d times", e, seen[e])
		}
	}
}

// The longest round that can be within a shift.
func TestWalkOfGreatNumbers(t *testing.T) {
	r := edited(even(8, 1), func(r *api.RoundRules) {
		for i := range r.Towers {
			r.Towers[i] = api.RoundTower{Climb: 120, Wind: 60, Oil: 1000, Goes: 1}
		}
		r.Winders[0] = api.RoundWinder{Oil: 8000, Shift: 1440, Run: 1440}
		r.Ways, r.Wage = ways(8, 0), 1000
	})
	expectWalk(t, r, trip(0, 0, 1, 2, 3, 4, 5, 6, 7), 1440, 1440000)
	expectWalkError(t, edited(r, func(r *api.RoundRules) { r.Ways[7][8] = 1 }), trip(0, 0, 1, 2, 3, 4, 5, 6, 7), 8, api.ErrRun)
	expectWalkError(t, r, trip(0, 0, 1, 2, 3, 4, 5, 6, 7, rest), 8, api.ErrShift)
	if _, _, at, e := round.Walk(edited(r, func(r *api.RoundRules) { r.Ways = ways(8, 1440) }), trip(0, 0)); at != 0 || e != api.ErrRun {
		t.Errorf("the way to a tower that is too far: %v at %d", e, at)
	}
}
