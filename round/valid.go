package round

import (
	"slices"

	"turret/api"
)

// within reports whether all numbers are from low to high.
func within(low, high int, numbers ...int) bool {
	outside := func(n int) bool { return n < low || n > high }
	return !slices.ContainsFunc(numbers, outside)
}

// not returns the opposite of a condition.
func not[T any](holds func(T) bool) func(T) bool {
	return func(v T) bool { return !holds(v) }
}

// every reports whether a condition holds for all elements of a list.
func every[T any](list []T, holds func(T) bool) bool {
	return !slices.ContainsFunc(list, not(holds))
}

// distinct reports whether no two numbers are the same.
func distinct(numbers ...int) bool {
	for i, n := range numbers {
		if slices.Contains(numbers[:i], n) {
			return false
		}
	}
	return true
}

// areTowers reports whether all numbers are those of towers.
func areTowers(r api.RoundRules, numbers ...int) bool {
	return within(0, len(r.Towers)-1, numbers...)
}

// isWinder reports whether a number is that of a winder.
func isWinder(r api.RoundRules, number int) bool { return within(0, len(r.Winders)-1, number) }

// formed reports whether there are ways between all places.
func formed(r api.RoundRules) bool {
	places := len(r.Towers) + 1
	complete := func(row []int) bool { return len(row) == places }
	return len(r.Ways) == places && every(r.Ways, complete)
}

// valid reports whether rules with ways between all places are valid.
func valid(r api.RoundRules) bool {
	return len(r.Towers) > 0 && every(r.Towers, validTower) &&
		len(r.Winders) > 0 && every(r.Winders, validWinder) &&
		validWays(r.Ways...) &&
		within(1, api.MaxRoundMinutes, r.Rest) && within(0, api.MaxRoundWage, r.Wage)
}

func validTower(t api.RoundTower) bool {
	return within(0, api.MaxRoundClimb, t.Climb, t.Wind) && within(0, api.MaxRoundOil, t.Oil) && within(1, api.MaxRoundGoes, t.Goes)
}

func validWinder(w api.RoundWinder) bool {
	return within(0, api.MaxRoundTowers*api.MaxRoundOil, w.Oil) && within(1, api.MaxRoundMinutes, w.Shift, w.Run)
}

func validWays(ways ...[]int) bool {
	for place, row := range ways {
		if row[place] != 0 || !within(0, api.MaxRoundMinutes, row...) {
			return false
		}
	}
	return true
}

// checkTowers returns the error of towers that are to be wound.
func checkTowers(r api.RoundRules, towers []int) api.Errno {
	switch {
	case len(towers) > api.MaxRoundBest:
		return api.ErrLong
	case !areTowers(r, towers...):
		return api.ErrArg
	case !distinct(towers...):
		return api.ErrTwice
	}
	return api.OK
}

// checkDays returns the error of rules, of winding days, or of a day that is asked for.
func checkDays(r api.RoundRules, days []api.RoundDay, day int) api.Errno {
	if e := Check(r); e != api.OK {
		return e
	}
	switch {
	case len(days) > api.MaxRoundDays:
		return api.ErrLong
	case !validDays(r, days):
		return api.ErrArg
	case !within(0, api.MaxRoundDay, day):
		return api.ErrRange
	}
	return api.OK
}

func validDays(r api.RoundRules, days []api.RoundDay) bool {
	last := 0
	for _, d := range days {
		if !within(last+1, api.MaxRoundDay, d.Day) || !areTowers(r, d.Towers...) || !distinct(d.Towers...) {
			return false
		}
		last = d.Day
	}
	return true
}
