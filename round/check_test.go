package round_test

import (
	"math"
	"slices"
	"testing"

	"turret/api"
	"turret/round"
)

// edit is a change of rules.
type edit = func(*api.RoundRules)

// limit is a number of rules, with the least and the greatest value that it can have.
type limit struct {
	name      string
	low, high int
	set       func(r *api.RoundRules, n int)
}

// limits are those of all numbers of rules; a tower, a winder and a way are not the first ones.
func limits() []limit {
	return []limit{
		{"Climb", 0, 120, func(r *api.RoundRules, n int) { r.Towers[1].Climb = n }},
		{"Wind", 0, 120, func(r *api.RoundRules, n int) { r.Towers[1].Wind = n }},
		{"Oil of a tower", 0, 1000, func(r *api.RoundRules, n int) { r.Towers[1].Oil = n }},
		{"Goes", 1, 30, func(r *api.RoundRules, n int) { r.Towers[1].Goes = n }},
		{"Oil of a winder", 0, 8000, func(r *api.RoundRules, n int) { r.Winders[1].Oil = n }},
		{"Shift", 1, 1440, func(r *api.RoundRules, n int) { r.Winders[1].Shift = n }},
		{"Run", 1, 1440, func(r *api.RoundRules, n int) { r.Winders[1].Run = n }},
		{"Rest", 1, 1440, func(r *api.RoundRules, n int) { r.Rest = n }},
		{"Wage", 0, 1000, func(r *api.RoundRules, n int) { r.Wage = n }},
		{"a way between towers", 0, 1440, func(r *api.RoundRules, n int) { r.Ways[1][0] = n }},
		{"a way to the works", 0, 1440, func(r *api.RoundRules, n int) { r.Ways[1][2] = n }},
		{"a way from the works", 0, 1440, func(r *api.RoundRules, n int) { r.Ways[2][0] = n }},
		{"a way from a tower to itself", 0, 0, func(r *api.RoundRules, n int) { r.Ways[0][0] = n }},
		{"a way from another tower to itself", 0, 0, func(r *api.RoundRules, n int) { r.Ways[1][1] = n }},
		{"a way from the works to themselves", 0, 0, func(r *api.RoundRules, n int) { r.Ways[2][2] = n }},
	}
}

// wrongForms returns rules with too few or too many rows or columns.
func wrongForms() []api.RoundRules {
	edits := []edit{
		func(r *api.RoundRules) { r.Ways = nil },
		func(r *api.RoundRules) { r.Ways = r.Ways[:2] },
		func(r *api.RoundRules) { r.Ways = r.Ways[1:] },
		func(r *api.RoundRules) { r.Ways = append(r.Ways, numbers(10, 25, 0)) },
		func(r *api.RoundRules) { r.Ways = ways(1, 10) },
		func(r *api.RoundRules) { r.Ways = ways(3, 10) },
		func(r *api.RoundRules) { r.Ways = slices.Repeat(ways(2, 10), 100) },
		func(r *api.RoundRules) { r.Towers = nil },
		func(r *api.RoundRules) { r.Towers, r.Ways = nil, nil },
		func(r *api.RoundRules) { r.Towers, r.Ways = nil, [][]int{nil} },
		func(r *api.RoundRules) { r.Towers, r.Ways = nil, [][]int{{0, 0}} },
		func(r *api.RoundRules) { r.Towers = append(r.Towers, r.Towers[0]) },
	}
	for row := range 3 {
		edits = append(edits,
			func(r *api.RoundRules) { r.Ways[row] = nil },
			func(r *api.RoundRules) { r.Ways[row] = r.Ways[row][:2] },
			func(r *api.RoundRules) { r.Ways[row] = append(r.Ways[row], 0) },
			func(r *api.RoundRules) { r.Ways[row] = append(r.Ways[row], 5000) })
	}
	var list []api.RoundRules
	for _, e := range edits {
		// Rules that are not valid have a wrong form first.
		list = append(list, edited(example(), e), edited(example(), e, func(r *api.RoundRules) { r.Rest, r.Winders = -1, nil }))
	}
	return append(list, api.RoundRules{})
}

func tooLong() []api.RoundRules {
	var list []api.RoundRules
	for _, n := range numbers(9, 10, 100) {
		list = append(list, even(n, 1), edited(even(n, 1), func(r *api.RoundRules) { r.Ways, r.Rest = nil, 0 }))
	}
	for _, n := range numbers(5, 6, 100) {
		list = append(list, even(1, n), even(9, n), edited(even(3, n), func(r *api.RoundRules) { r.Ways = r.Ways[:3] }))
		list = append(list, edited(even(0, n), func(r *api.RoundRules) { r.Ways = nil }), edited(even(1, n), func(r *api.RoundRules) { r.Winders[0].Run = 0 }))
	}
	return list
}

// wrongValues returns rules with the right form that are not valid.
func wrongValues() []api.RoundRules {
	list := []api.RoundRules{even(0, 1), even(0, 4), even(0, 0), even(1, 0), even(8, 0)}
	for _, l := range limits() {
		for _, n := range append(wild(), l.low-1, l.high+1) {
			list = append(list, edited(example(), func(r *api.RoundRules) { l.set(r, n) }))
		}
	}
	first := []edit{
		func(r *api.RoundRules) { r.Towers[0].Climb = 121 },
		func(r *api.RoundRules) { r.Towers[0].Wind = -1 },
		func(r *api.RoundRules) { r.Towers[0].Oil = 1001 },
		func(r *api.RoundRules) { r.Towers[0].Goes = 0 },
		func(r *api.RoundRules) { r.Winders[0].Oil = 8001 },
		func(r *api.RoundRules) { r.Winders[0].Shift = 0 },
		func(r *api.RoundRules) { r.Winders[0].Run = 1441 },
		func(r *api.RoundRules) { r.Ways[0][2] = -1 },
		func(r *api.RoundRules) { r.Ways[2][1] = 1441 },
		func(r *api.RoundRules) { r.Winders = nil },
	}
	for _, e := range first {
		list = append(list, edited(example(), e))
	}
	return list
}

// goodRules returns valid rules, with least and greatest values.
func goodRules() []api.RoundRules {
	list := []api.RoundRules{example(), even(1, 1), even(8, 4), even(1, 4), even(8, 1), even(5, 3)}
	for _, l := range limits() {
		for _, n := range numbers(l.low, (l.low+l.high)/2, l.high) {
			list = append(list, edited(example(), func(r *api.RoundRules) { l.set(r, n) }))
		}
	}
	greatest := edited(even(8, 4), func(r *api.RoundRules) {
		r.Towers = slices.Repeat([]api.RoundTower{{Climb: 120, Wind: 120, Keys: math.MaxUint16, Oil: 1000, Goes: 30}}, 8)
		r.Winders = slices.Repeat([]api.RoundWinder{{Keys: math.MaxUint16, Oil: 8000, Shift: 1440, Run: 1440}}, 4)
		r.Ways, r.Rest, r.Wage = ways(8, 1440), 1440, 1000
	})
	least := edited(even(8, 4), func(r *api.RoundRules) {
		r.Towers = slices.Repeat([]api.RoundTower{{Goes: 1}}, 8)
		r.Winders = slices.Repeat([]api.RoundWinder{{Shift: 1, Run: 1}}, 4)
		r.Ways, r.Rest, r.Wage = ways(8, 0), 1, 0
	})
	return append(list, greatest, least)
}

// P11.1

func TestCheckAcceptsRules(t *testing.T) {
	for _, r := range goodRules() {
		if e := round.Check(r); e != api.OK {
			t.Errorf("Check(%+v) = %v", r, e)
		}
	}
	for i := range 16 {
		r := edited(example(), func(r *api.RoundRules) { r.Towers[1].Keys, r.Winders[0].Keys = 1<<i, 1<<i })
		if e := round.Check(r); e != api.OK {
			t.Errorf("Check(%+v) = %v", r, e)
		}
	}
}

// A way back may be longer than the way there, and a detour shorter than the straight way.
func TestCheckAcceptsAnyWays(t *testing.T) {
	r := edited(example(), func(r *api.RoundRules) {
		r.Ways = [][]int{{0, 1440, 1}, {3, 0, 0}, {0, 7, 0}}
	})
	if e := round.Check(r); e != api.OK {
		t.Errorf("Check(%+v) = %v", r, e)
	}
}

// expectRulesError is for all functions: the errors of rules come first, whatever else is wrong.
func expectRulesError(t *testing.T, r api.RoundRules, want api.Errno) {
	t.Helper()
	if e := round.Check(r); e != want {
		t.Errorf("Check(%+v) = %v; want %v", r, e, want)
	}
	for _, n := range append(wild(), -2, -1, 0, 1, 5) {
		expectWalkError(t, r, trip(n, 0), 0, want)
		expectWalkError(t, r, trip(0, 0, n), 0, want)
		expectWalkError(t, r, trip(n, make([]int, 41)...), 0, want)
		for _, towers := range [][]int{nil, {n}, {0, 0, n}, {0, 1, 2, 3, 4, n}} {
			expectBestError(t, r, n, towers, want)
			expectBestError(t, r, 0, towers, want)
			expectFewestError(t, r, towers, want)
		}
		for _, list := range [][]api.RoundDay{nil, days(on(n)), days(on(1, n)), make([]api.RoundDay, 401)} {
			expectDaysError(t, r, list, n, want)
			expectDaysError(t, r, list, 5, want)
		}
	}
}

func TestCheckRejectsRules(t *testing.T) {
	for _, r := range tooLong() {
		expectRulesError(t, r, api.ErrLong)
	}
	for _, r := range wrongForms() {
		expectRulesError(t, r, api.ErrForm)
	}
	for _, r := range wrongValues() {
		expectRulesError(t, r, api.ErrArg)
	}
}

func TestCheckNamesTheLimit(t *testing.T) {
	for _, l := range limits() {
		for n, want := range map[int]api.Errno{l.low - 1: api.ErrArg, l.low: api.OK, l.high: api.OK, l.high + 1: api.ErrArg} {
			if e := round.Check(edited(example(), func(r *api.RoundRules) { l.set(r, n) })); e != want {
				t.Errorf("%s of %d: %v; want %v", l.name, n, e, want)
			}
		}
	}
}

// R3

func TestNilAndEmpty(t *testing.T) {
	r := example()
	expectWalk(t, r, trip(0), 0, 0)
	expectWalk(t, r, api.RoundTrip{Steps: numbers()}, 0, 0)
	expectBest(t, r, 1, nil, 0)
	expectBest(t, r, 1, numbers(), 0)
	expectFewest(t, r, nil, 0)
	expectFewest(t, r, numbers(), 0)
	for _, list := range [][]api.RoundDay{nil, days(), days(on(3)), days(api.RoundDay{Day: 3, Towers: numbers()})} {
		expectLeft(t, r, list, 4, 4, -2)
		expectStops(t, r, list, 4, 1, 2)
	}
	for _, empty := range [][][]int{nil, {}} {
		expectRulesError(t, api.RoundRules{Towers: []api.RoundTower{}, Ways: empty}, api.ErrForm)
	}
}

// R4

// spare returns a list with something behind its end.
func spare[E any](list []E, behind E) []E { return append(slices.Clone(list), behind)[:len(list)] }

func TestArgumentsAreNotChanged(t *testing.T) {
	r := even(5, 3)
	r.Winders[0].Run, r.Winders[1].Run = 50, 40
	given := clone(r)
	towers := spare(numbers(4, 2, 0, 3), 77)
	steps := spare(numbers(2, rest, 0, rest, rest), 77)
	list := days(on(1, spare(numbers(3, 1), 77)...), on(4, spare(numbers(4, 0, 2), 77)...), on(5))
	round.Check(given)
	for winder := range 4 {
		round.Walk(given, trip(winder, steps...))
		round.Best(given, winder, towers)
	}
	round.Fewest(given, towers)
	round.Left(given, list, 6)
	round.Stops(given, list, 30)
	if !equalRules(given, r) {
		t.Errorf("the rules became %+v", given)
	}
	if !slices.Equal(towers[:5], numbers(4, 2, 0, 3, 77)) || !slices.Equal(steps[:6], numbers(2, rest, 0, rest, rest, 77)) {
		t.Errorf("the lists became %v and %v", towers[:5], steps[:6])
	}
	if !slices.Equal(list[0].Towers[:3], numbers(3, 1, 77)) || !slices.Equal(list[1].Towers[:4], numbers(4, 0, 2, 77)) || list[2].Day != 5 {
		t.Errorf("the days became %v", list)
	}
}

func TestResultsAreNew(t *testing.T) {
	r := edited(even(4, 2), func(r *api.RoundRules) { r.Winders[0].Oil, r.Winders[1].Oil = 2, 2 })
	towers := numbers(0, 1)
	for range 2 {
		steps, _, _ := round.Best(r, 0, towers)
		if !slices.Equal(steps, numbers(0, 1)) {
			t.Fatalf("Best returns %v", steps)
		}
		clear(append(steps, 9))
		clear(steps)
	}
	list, _, _ := round.Fewest(r, numbers(0, 1, 2, 3))
	if !equalTrips(list, trips(trip(0, 0, 1), trip(1, 2, 3))) {
		t.Fatalf("Fewest returns %v", list)
	}
	_ = append(list[0].Steps, 7, 7, 7)
	list[0].Steps[0], list[0].Steps[1] = 8, 8
	if !slices.Equal(list[1].Steps, numbers(2, 3)) || !slices.Equal(towers, numbers(0, 1)) {
		t.Errorf("the other round became %v, the towers %v", list[1].Steps, towers)
	}
	left, _ := round.Left(r, nil, 3)
	left[0] = 99
	expectLeft(t, r, nil, 3, 4, 4, 4, 4)
}

// P1

func TestAnyArguments(t *testing.T) {
	rules := slices.Concat(goodRules(), wrongValues()[:40], wrongForms(), tooLong())
	all := append(wild(), -2, -1, 0, 1, 2, 3, 4, 7, 8, 9, 30, 36524, 36525)
	for i, r := range rules {
		other := all[i%len(all)]
		for _, n := range all {
			round.Walk(r, trip(n, other, 0))
			round.Walk(r, trip(0, n, other, rest, n))
			round.Best(r, n, numbers(other, 0))
			round.Best(r, 0, numbers(n, other))
			round.Fewest(r, numbers(0, n, other))
			round.Left(r, days(on(n, other), on(other, n)), n)
			round.Left(r, days(on(1, other), on(2, n)), other)
			round.Stops(r, days(on(n, other), on(other, n)), n)
			round.Stops(r, days(on(1, 0), on(2, n)), other)
		}
	}
}
