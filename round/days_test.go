package round_test

import (
	"slices"
	"testing"

	"turret/api"
	"turret/drop"
	"turret/round"
)

// goes returns rules with towers that go so many days.
func goes(list ...int) api.RoundRules {
	r := even(len(list), 1)
	for i, n := range list {
		r.Towers[i].Goes = n
	}
	return r
}

// each returns winding days of a tower.
func each(tower int, on ...int) (list []api.RoundDay) {
	for _, day := range on {
		list = append(list, api.RoundDay{Day: day, Towers: numbers(tower)})
	}
	return list
}

// P11.5

func TestLeftOfExamples(t *testing.T) {
	expectLeft(t, example(), days(on(2, 1), on(4, 1)), 5, 3, 1)
}

func TestLeftWithoutWinding(t *testing.T) {
	r := goes(8, 2, 30, 1)
	expectLeft(t, r, nil, 0, 8, 2, 30, 1)
	expectLeft(t, r, nil, 1, 7, 1, 29, 0)
	expectLeft(t, r, nil, 2, 6, 0, 28, -1)
	expectLeft(t, r, nil, 30, -22, -28, 0, -29)
	expectLeft(t, r, nil, 36524, 8-36524, 2-36524, 30-36524, 1-36524)
	expectLeft(t, r, days(on(1), on(2)), 2, 6, 0, 28, -1)
}

// What is wound on a day counts on it, but not before it.
func TestLeftFromTheDayOn(t *testing.T) {
	list := days(on(2, 1), on(4, 1, 0), on(9, 0))
	r := example()
	expectLeft(t, r, list, 0, 8, 2)
	expectLeft(t, r, list, 1, 7, 1)
	expectLeft(t, r, list, 2, 6, 2)
	expectLeft(t, r, list, 3, 5, 1)
	expectLeft(t, r, list, 4, 8, 2)
	expectLeft(t, r, list, 6, 6, 0)
	expectLeft(t, r, list, 8, 4, -2)
	expectLeft(t, r, list, 9, 8, -3)
	expectLeft(t, r, list, 20, -3, -14)
}

// Wound on the day on which it stops, and after it has stopped.
func TestLeftOfTowersThatHaveStopped(t *testing.T) {
	r := goes(3)
	list := each(0, 3, 10, 36524)
	expectLeft(t, r, list, 2, 1)
	expectLeft(t, r, list, 3, 3)
	expectLeft(t, r, list, 6, 0)
	expectLeft(t, r, list, 9, -3)
	expectLeft(t, r, list, 10, 3)
	expectLeft(t, r, list, 36523, 13-36523)
	expectLeft(t, r, list, 36524, 3)
}

func TestLeftOfDays(t *testing.T) {
	x := seeded(7)
	for range 2000 {
		r := randomRules(x, from(x, 1, 8), 1)
		until := from(x, 0, 30)
		list := randomDays(x, r, until)
		day := from(x, 0, until+3)
		var want []int
		for tower, other := range r.Towers {
			last := 0
			for _, w := range wound(list, tower) {
				if w <= day {
					last = w
				}
			}
			want = append(want, last+other.Goes-day)
		}
		expectLeft(t, r, list, day, want...)
	}
}

// P11.6

func TestStopsOfExamples(t *testing.T) {
	expectStops(t, example(), days(on(2, 1), on(4, 1)), 10, 1, 6)
}

// A weight with Line 96, of which 2 are used in each hour, goes for two days.
func TestStopsWithAWeight(t *testing.T) {
	clock := api.DropClock{Line: 96, Hours: slices.Repeat([]api.Span{{Low: 2, High: 2}}, 24)}
	if s, e := drop.Goes(clock, 96, 0); s != (api.Span{Low: 48, High: 48}) || e != api.OK {
		t.Errorf("Goes(%v, 96, 0) = %v, %v", clock, s, e)
	}
	expectStops(t, goes(2), nil, 10, 0, 2)
}

func TestStopsWithoutWinding(t *testing.T) {
	r := goes(8, 5, 30)
	expectStops(t, r, nil, 36524, 1, 5)
	expectStops(t, r, nil, 6, 1, 5)
	expectStops(t, r, nil, 5, 1, 5)
	expectStops(t, r, nil, 4, -1, 0)
	expectStops(t, r, nil, 1, -1, 0)
	expectStops(t, r, nil, 0, -1, 0)
	expectStops(t, r, days(on(1), on(4)), 9, 1, 5)
	expectStops(t, goes(1), nil, 1, 0, 1)
	expectStops(t, goes(1), nil, 0, -1, 0)
	expectStops(t, goes(30), nil, 30, 0, 30)
	expectStops(t, goes(30), nil, 29, -1, 0)
}

// A tower that is wound on the day on which it would stop does not stop; a day later it does.
func TestStopsOnTheDay(t *testing.T) {
	r := goes(3)
	expectStops(t, r, each(0, 2), 10, 0, 5)
	expectStops(t, r, each(0, 3), 10, 0, 6)
	expectStops(t, r, each(0, 4), 10, 0, 3)
	expectStops(t, r, each(0, 3, 6), 10, 0, 9)
	expectStops(t, r, each(0, 3, 7), 10, 0, 6)
	expectStops(t, r, each(0, 1, 2, 3, 4), 10, 0, 7)
	expectStops(t, r, each(0, 1, 2, 3, 4), 7, 0, 7)
	expectStops(t, r, each(0, 1, 2, 3, 4), 6, -1, 0)
	expectStops(t, goes(1), each(0, 1, 2, 3), 10, 0, 4)
}

// A tower that is wound after it has stopped goes again, but the first day counts.
func TestStopsOfTowersThatHaveStopped(t *testing.T) {
	r := goes(3, 9)
	expectStops(t, r, days(on(5, 0, 1), on(6, 0)), 20, 0, 3)
	expectStops(t, r, each(0, 36524), 36524, 0, 3)
	expectStops(t, r, days(on(3, 0), on(8, 0), on(9, 0)), 20, 0, 6)
}

// Winding days after until, or after a tower has stopped, change nothing before.
func TestStopsUntilADay(t *testing.T) {
	r := goes(3, 4)
	list := days(on(2, 0, 1), on(5, 0), on(6, 1), on(8, 0), on(10, 1))
	expectStops(t, r, list, 10, -1, 0)
	expectStops(t, r, list, 11, 0, 11)
	expectStops(t, r, list, 14, 0, 11)
	expectStops(t, r, append(list, on(11, 0), on(14, 0)), 14, 1, 14)
	expectStops(t, r, append(list, on(11, 0), on(14, 0)), 13, -1, 0)
}

// Of two towers that stop on the same day the first one; a later one that stops sooner comes before both.
func TestStopsOfTowers(t *testing.T) {
	expectStops(t, goes(5, 5), nil, 9, 0, 5)
	expectStops(t, goes(6, 5, 5, 7), nil, 9, 1, 5)
	expectStops(t, goes(5, 3), each(1, 2), 9, 0, 5)
	expectStops(t, goes(3, 5), each(0, 2), 9, 0, 5)
	expectStops(t, goes(5, 3), each(1, 1), 9, 1, 4)
	expectStops(t, goes(5, 5), each(0, 5), 9, 1, 5)
	expectStops(t, goes(5, 5), each(1, 5), 9, 0, 5)
	expectStops(t, goes(5, 5), days(on(5, 1, 0)), 9, -1, 0)
	expectStops(t, goes(9, 9, 9, 9, 9, 9, 9, 8), nil, 9, 7, 8)
}

// The last day of all.
func TestStopsAtTheEnd(t *testing.T) {
	var list []api.RoundDay
	for i := range 400 {
		list = append(list, on(36524-30*(400-i), 0))
	}
	r := goes(30)
	expectStops(t, r, list, 36524, 0, 30)
	list = nil
	for i := range 400 {
		list = append(list, on(30*(i+1), 0))
	}
	expectStops(t, r, list, 36524, 0, 12030)
	expectStops(t, r, list, 12030, 0, 12030)
	expectStops(t, r, list, 12029, -1, 0)
}

func TestStopsOfDays(t *testing.T) {
	x := seeded(8)
	seen := map[bool]int{}
	for range 3000 {
		r := randomRules(x, from(x, 1, 8), 1)
		list := randomDays(x, r, from(x, 0, 30))
		until := from(x, 0, 12)
		tower, day := stopped(r, list, until)
		seen[tower < 0]++
		expectStops(t, r, list, until, tower, day)
	}
	if seen[true] < 200 || seen[false] < 200 {
		t.Errorf("none stops: %v", seen)
	}
}

func TestManyDays(t *testing.T) {
	var list []api.RoundDay
	for i := range 400 {
		list = append(list, on(i+1, 0, 1))
	}
	r := example()
	expectLeft(t, r, list, 400, 8, 2)
	expectLeft(t, r, list, 402, 6, 0)
	expectStops(t, r, list, 402, 1, 402)
	expectStops(t, r, list, 401, -1, 0)
	for _, d := range days(on(401, 0), on(401), on(1, 7, 7), on(0)) {
		expectDaysError(t, r, append(slices.Clone(list), d), 5, api.ErrLong)
		expectDaysError(t, r, append(slices.Clone(list), d), -1, api.ErrLong)
	}
	expectDaysError(t, r, make([]api.RoundDay, 401), 5, api.ErrLong)
	expectDaysError(t, r, make([]api.RoundDay, 400), 5, api.ErrArg)
}

// wrongDays are winding days of the example's towers that are not valid.
func wrongDays() [][]api.RoundDay {
	var list [][]api.RoundDay
	for _, n := range append(wild(), -1, 0, 36525, 36526) {
		list = append(list, days(on(n, 0)), days(on(n)), days(on(5, 0), on(n, 1)), days(on(n, 0), on(6, 1)))
	}
	for _, n := range append(wild(), -2, -1, 2, 3, 8) {
		list = append(list, days(on(5, n)), days(on(5, 0, n)), days(on(5, n, 1)), days(on(4, 0), on(5, 0, 1, n)), days(on(4, n), on(5, 0)))
	}
	for _, n := range numbers(1, 2, 4, 5) {
		list = append(list, days(on(5, 0), on(n, 1)), days(on(1), on(5), on(n)), days(on(5, 0), on(n, 1), on(7, 0)))
	}
	list = append(list, days(on(36524), on(36524)), days(on(5, 0, 0)), days(on(5, 1, 0, 1)), days(on(4, 1), on(5, 1, 1)))
	return append(list, days(on(4, 1, 1), on(5, 1)), days(on(5, slices.Repeat(numbers(0, 1), 1000)...)))
}

func TestErrorsOfDays(t *testing.T) {
	r := example()
	for _, list := range wrongDays() {
		for _, day := range append(wild(), -1, 0, 5, 36524, 36525) {
			expectDaysError(t, r, list, day, api.ErrArg)
		}
	}
	for _, day := range append(wild(), -2, -1, 36525, 36526) {
		expectDaysError(t, r, nil, day, api.ErrRange)
		expectDaysError(t, r, days(on(1, 0, 1), on(36524, 1, 0)), day, api.ErrRange)
	}
	for _, list := range [][]api.RoundDay{days(on(1, 0, 1)), days(on(1, 1, 0), on(2, 1)), days(on(1, 0, 1), on(36524, 1))} {
		for _, day := range numbers(0, 1, 36523, 36524) {
			if _, e := round.Left(r, list, day); e != api.OK {
				t.Errorf("Left(%+v, %v, %d): %v", r, list, day, e)
			}
			if _, _, e := round.Stops(r, list, day); e != api.OK {
				t.Errorf("Stops(%+v, %v, %d): %v", r, list, day, e)
			}
		}
	}
	expectLeft(t, r, days(on(36524, 1)), 36524, 8-36524, 2)
}

// P11.10

func TestStopsFollowsFromLeft(t *testing.T) {
	x := seeded(9)
	for range 1000 {
		r := randomRules(x, from(x, 1, 4), 1)
		list := randomDays(x, r, from(x, 0, 30))
		until := from(x, 0, 15)
		tower, day, _ := round.Stops(r, list, until)
		first, on := -1, 0
		for d := 1; d <= until && first < 0; d++ {
			left, _ := round.Left(r, list, d)
			for i, n := range left {
				if n <= 0 && !slices.Contains(wound(list, i), d) && first < 0 {
					first, on = i, d
				}
			}
		}
		if tower != first || day != on {
			t.Errorf("Stops(%+v, %v, %d) = %d, %d; by Left it is %d, %d", r, list, until, tower, day, first, on)
		}
	}
}

// alone returns rules and winding days with one tower of others.
func alone(r api.RoundRules, list []api.RoundDay, tower int) (api.RoundRules, []api.RoundDay) {
	var own []api.RoundDay
	for _, d := range list {
		if slices.Contains(d.Towers, tower) {
			own = append(own, on(d.Day, 0))
		}
	}
	return goes(r.Towers[tower].Goes), own
}

// sooner reports whether a tower stops on an earlier day than another one; -1 is no tower.
func sooner(tower, day, other, otherDay int) bool {
	return tower >= 0 && (other < 0 || day < otherDay)
}

func TestMoreWindingStopsNothingEarlier(t *testing.T) {
	x := seeded(10)
	later := 0
	for range 1000 {
		r := randomRules(x, from(x, 1, 5), 1)
		most := randomDays(x, r, 30)
		var few []api.RoundDay
		for _, d := range most {
			if keep := x.IntN(len(d.Towers) + 1); x.IntN(4) > 0 {
				few = append(few, on(d.Day, d.Towers[:keep]...))
			}
		}
		until := from(x, 1, 35)
		tower, day, _ := round.Stops(r, few, until)
		other, then, _ := round.Stops(r, most, until)
		if sooner(other, then, tower, day) {
			t.Errorf("Stops(%+v, %v, %d) = %d, %d, but with %v it is %d, %d", r, few, until, tower, day, most, other, then)
		}
		if sooner(tower, day, other, then) {
			later++
		}
		for i := range r.Towers {
			one, own := alone(r, few, i)
			_, all := alone(r, most, i)
			tower, day, _ := round.Stops(one, own, until)
			other, then, _ := round.Stops(one, all, until)
			if sooner(other, then, tower, day) {
				t.Errorf("Stops(%+v, %v, %d) = %d, but with %v it is %d", one, own, until, day, all, then)
			}
		}
	}
	if later < 200 {
		t.Errorf("only %d stop later", later)
	}
}
