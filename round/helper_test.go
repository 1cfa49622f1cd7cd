package round_test

import (
	"cmp"
	"math"
	"math/rand/v2"
	"slices"
	"testing"

	"turret/api"
	"turret/round"
)

const rest = api.RoundRest

func numbers(n ...int) []int { return n }

// wild are numbers that nothing allows.
func wild() []int {
	return numbers(math.MinInt, math.MinInt+1, -1<<40, -1<<32, 1<<32, 1<<40, math.MaxInt-1, math.MaxInt)
}

func seeded(n uint64) *rand.Rand { return rand.New(rand.NewPCG(n, 11)) }

// from returns a random integer from low to high.
func from(x *rand.Rand, low, high int) int { return low + x.IntN(high-low+1) }

func trip(winder int, steps ...int) api.RoundTrip { return api.RoundTrip{Winder: winder, Steps: steps} }

func trips(t ...api.RoundTrip) []api.RoundTrip { return t }

func on(day int, towers ...int) api.RoundDay { return api.RoundDay{Day: day, Towers: towers} }

func days(d ...api.RoundDay) []api.RoundDay { return d }

// example returns the chapter's rules.
func example() api.RoundRules {
	return api.RoundRules{
		Towers:  []api.RoundTower{{Climb: 10, Wind: 20, Keys: 1, Oil: 5, Goes: 8}, {Climb: 5, Wind: 15, Keys: 2, Oil: 3, Goes: 2}},
		Ways:    [][]int{{0, 30, 10}, {30, 0, 25}, {10, 25, 0}},
		Winders: []api.RoundWinder{{Keys: 3, Oil: 10, Shift: 200, Run: 100}, {Keys: 2, Oil: 3, Shift: 100, Run: 45}},
		Rest:    15,
		Wage:    2,
	}
}

// ways returns ways of so many minutes between all places of so many towers.
func ways(towers, minutes int) [][]int {
	var rows [][]int
	for i := range towers + 1 {
		row := slices.Repeat(numbers(minutes), towers+1)
		row[i] = 0
		rows = append(rows, row)
	}
	return rows
}

// even returns rules in which each way takes ten minutes and each tower five, and the winders can do all.
func even(towers, winders int) api.RoundRules {
	return api.RoundRules{
		Towers:  slices.Repeat([]api.RoundTower{{Climb: 3, Wind: 2, Oil: 1, Goes: 7}}, towers),
		Ways:    ways(towers, 10),
		Winders: slices.Repeat([]api.RoundWinder{{Keys: math.MaxUint16, Oil: 8, Shift: 1440, Run: 1440}}, winders),
		Rest:    5,
		Wage:    1,
	}
}

// clone returns rules that share no memory with others.
func clone(r api.RoundRules) api.RoundRules {
	r.Towers, r.Winders, r.Ways = slices.Clone(r.Towers), slices.Clone(r.Winders), slices.Clone(r.Ways)
	for i, row := range r.Ways {
		r.Ways[i] = slices.Clone(row)
	}
	return r
}

// edited returns rules with some changes.
func edited(r api.RoundRules, edits ...func(*api.RoundRules)) api.RoundRules {
	r = clone(r)
	for _, edit := range edits {
		edit(&r)
	}
	return r
}

func equalRules(a, b api.RoundRules) bool {
	return slices.Equal(a.Towers, b.Towers) && slices.EqualFunc(a.Ways, b.Ways, slices.Equal) && slices.Equal(a.Winders, b.Winders) && a.Rest == b.Rest && a.Wage == b.Wage
}

// randomRules returns rules with small numbers, so that much is equal, and just suffices or not.
func randomRules(x *rand.Rand, towers, winders int) api.RoundRules {
	r := api.RoundRules{Rest: from(x, 1, 4), Wage: from(x, 0, 5), Ways: ways(towers, 0)}
	for range towers {
		r.Towers = append(r.Towers, api.RoundTower{Climb: from(x, 0, 2), Wind: from(x, 0, 2), Keys: uint16(1 << x.IntN(8) & 3), Oil: from(x, 0, 3), Goes: from(x, 1, 6)})
	}
	for range winders {
		r.Winders = append(r.Winders, api.RoundWinder{Keys: []uint16{3, 3, 3, 7, 1, 2, 0}[x.IntN(7)], Oil: from(x, 2, 14), Shift: from(x, 8, 50), Run: from(x, 6, 25)})
	}
	high := from(x, 1, 7)
	for i, row := range r.Ways {
		for k := range row {
			if i != k {
				row[k] = from(x, 0, high)
			}
		}
	}
	return r
}

// some returns so many towers of rules, in any order.
func some(x *rand.Rand, r api.RoundRules, many int) []int { return x.Perm(len(r.Towers))[:many] }

// randomDays returns winding days up to a day.
func randomDays(x *rand.Rand, r api.RoundRules, until int) []api.RoundDay {
	var list []api.RoundDay
	for day := 1; day <= until; day++ {
		if x.IntN(3) > 0 {
			list = append(list, on(day, some(x, r, x.IntN(len(r.Towers)+1))...))
		}
	}
	return list
}

// The model: a round is judged from its beginning for each step, and all rounds are tried, with rests or without before and after each tower.

func isTower(r api.RoundRules, step int) bool { return step >= 0 && step < len(r.Towers) }

// work returns how long each step takes that is work, and 0 for a rest; home stands for the works.
func work(r api.RoundRules, steps ...int) []int {
	var list []int
	at := len(r.Towers)
	for _, step := range steps {
		switch {
		case step == rest:
			list = append(list, 0)
			continue
		case isTower(r, step):
			list = append(list, r.Ways[at][step]+r.Towers[step].Climb+r.Towers[step].Wind)
		default:
			list = append(list, r.Ways[at][len(r.Towers)])
		}
		at = step
	}
	return list
}

func sum(list []int) (all int) {
	for _, n := range list {
		all += n
	}
	return all
}

// rests counts the rests of a round.
func rests(steps []int) (many int) {
	for _, step := range steps {
		if step == rest {
			many++
		}
	}
	return many
}

// minutesError is the error of the minutes up to the last step.
func minutesError(r api.RoundRules, winder int, steps []int) api.Errno {
	w := r.Winders[winder]
	worked := work(r, steps...)
	last := len(steps)
	for last > 0 && steps[last-1] != rest {
		last--
	}
	switch {
	case sum(worked[last:]) > w.Run:
		return api.ErrRun
	case sum(worked)+rests(steps)*r.Rest > w.Shift:
		return api.ErrShift
	}
	return api.OK
}

// stepError is the error of the last one of some steps.
func stepError(r api.RoundRules, winder int, steps []int) api.Errno {
	w, step := r.Winders[winder], steps[len(steps)-1]
	if step == rest {
		return minutesError(r, winder, steps)
	}
	if !isTower(r, step) {
		return api.ErrArg
	}
	oil := 0
	for _, s := range steps {
		if s != rest {
			oil += r.Towers[s].Oil
		}
	}
	switch {
	case slices.Contains(steps[:len(steps)-1], step):
		return api.ErrTwice
	case r.Towers[step].Keys|w.Keys != w.Keys:
		return api.ErrKeys
	case oil > w.Oil:
		return api.ErrOil
	}
	return minutesError(r, winder, steps)
}

// walked is what Walk should return.
func walked(r api.RoundRules, t api.RoundTrip) (minutes, wage, at int, e api.Errno) {
	for i := range t.Steps {
		if e = stepError(r, t.Winder, t.Steps[:i+1]); e != api.OK {
			return 0, 0, i, e
		}
	}
	all := append(slices.Clone(t.Steps), len(r.Towers))
	if e = minutesError(r, t.Winder, all); e != api.OK {
		return 0, 0, len(t.Steps), e
	}
	minutes = sum(work(r, all...)) + rests(t.Steps)*r.Rest
	return minutes, minutes * r.Wage, 0, api.OK
}

// orders calls a function with all orders of towers, with and without a rest before and after each.
func orders(done, left []int, try func([]int)) {
	if len(left) == 0 {
		try(done)
	}
	for i, tower := range left {
		orders(append(slices.Clone(done), tower), slices.Delete(slices.Clone(left), i, i+1), try)
	}
	if len(done) == 0 || done[len(done)-1] != rest {
		orders(append(slices.Clone(done), rest), left, try)
	}
}

// quickest is what Best should return; false if there is none.
func quickest(r api.RoundRules, winder int, towers []int) (steps []int, minutes int, found bool) {
	orders(nil, towers, func(list []int) {
		m, _, _, e := walked(r, trip(winder, list...))
		if e == api.OK && (!found || m < minutes || m == minutes && slices.Compare(list, steps) < 0) {
			steps, minutes, found = list, m, true
		}
	})
	return steps, minutes, found
}

// shares yields all ways to share towers among so many winders: for each tower the number of its winder.
func shares(towers, winders int, yield func([]int)) {
	for n := range int(math.Pow(float64(winders), float64(towers))) {
		var list []int
		for range towers {
			list = append(list, n%winders)
			n /= winders
		}
		yield(list)
	}
}

// compareTrips compares two lists of rounds by their number, minutes, winders and steps.
func compareTrips(a, b []api.RoundTrip, minutes, others int) int {
	if c := cmp.Or(cmp.Compare(len(a), len(b)), cmp.Compare(minutes, others)); c != 0 {
		return c
	}
	for i := range a {
		if c := cmp.Compare(a[i].Winder, b[i].Winder); c != 0 {
			return c
		}
	}
	for i := range a {
		if c := slices.Compare(a[i].Steps, b[i].Steps); c != 0 {
			return c
		}
	}
	return 0
}

// fewest is what Fewest should return; false if there is none. What is the quickest round is asked from a function.
func fewest(r api.RoundRules, towers []int, ask func(winder int, towers []int) ([]int, int, bool)) (best []api.RoundTrip, minutes int, found bool) {
	shares(len(towers), len(r.Winders), func(who []int) {
		var list []api.RoundTrip
		all := 0
		for winder := range r.Winders {
			var mine []int
			for i, tower := range towers {
				if who[i] == winder {
					mine = append(mine, tower)
				}
			}
			if len(mine) == 0 {
				continue
			}
			steps, m, ok := ask(winder, mine)
			if !ok {
				return
			}
			list, all = append(list, trip(winder, steps...)), all+m
		}
		if !found || compareTrips(list, best, all, minutes) < 0 {
			best, minutes, found = list, all, true
		}
	})
	return best, minutes, found
}

// wound returns the days, from 0 on, on which a tower is wound.
func wound(list []api.RoundDay, tower int) []int {
	all := numbers(0)
	for _, d := range list {
		if slices.Contains(d.Towers, tower) {
			all = append(all, d.Day)
		}
	}
	return all
}

// stopsOn reports whether a tower stops on a day.
func stopsOn(r api.RoundRules, list []api.RoundDay, tower, day int) bool {
	before := 0
	for _, w := range wound(list, tower) {
		if w == day {
			return false
		}
		if w < day {
			before = w
		}
	}
	return day == before+r.Towers[tower].Goes
}

// stopped is what Stops should return.
func stopped(r api.RoundRules, list []api.RoundDay, until int) (tower, day int) {
	for day := 1; day <= until; day++ {
		for tower := range r.Towers {
			if stopsOn(r, list, tower, day) {
				return tower, day
			}
		}
	}
	return -1, 0
}

func expectWalk(t *testing.T, r api.RoundRules, a api.RoundTrip, minutes, wage int) {
	t.Helper()
	if m, w, at, e := round.Walk(r, a); m != minutes || w != wage || at != 0 || e != api.OK {
		t.Errorf("Walk(%+v, %v) = %d, %d, %d, %v; want %d, %d", r, a, m, w, at, e, minutes, wage)
	}
}

func expectWalkError(t *testing.T, r api.RoundRules, a api.RoundTrip, at int, want api.Errno) {
	t.Helper()
	if m, w, i, e := round.Walk(r, a); m != 0 || w != 0 || i != at || e != want {
		t.Errorf("Walk(%+v, %v) = %d, %d, %d, %v; want the error %v at %d", r, a, m, w, i, e, want, at)
	}
}

func expectBest(t *testing.T, r api.RoundRules, winder int, towers []int, minutes int, steps ...int) {
	t.Helper()
	if s, m, e := round.Best(r, winder, towers); !slices.Equal(s, steps) || m != minutes || e != api.OK {
		t.Errorf("Best(%+v, %d, %v) = %v, %d, %v; want %v, %d", r, winder, towers, s, m, e, steps, minutes)
	}
}

func expectBestError(t *testing.T, r api.RoundRules, winder int, towers []int, want api.Errno) {
	t.Helper()
	if s, m, e := round.Best(r, winder, towers); len(s) != 0 || m != 0 || e != want {
		t.Errorf("Best(%+v, %d, %v) = %v, %d, %v; want the error %v", r, winder, towers, s, m, e, want)
	}
}

func equalTrips(a, b []api.RoundTrip) bool {
	return slices.EqualFunc(a, b, func(a, b api.RoundTrip) bool { return a.Winder == b.Winder && slices.Equal(a.Steps, b.Steps) })
}

func expectFewest(t *testing.T, r api.RoundRules, towers []int, minutes int, want ...api.RoundTrip) {
	t.Helper()
	if l, m, e := round.Fewest(r, towers); !equalTrips(l, want) || m != minutes || e != api.OK {
		t.Errorf("Fewest(%+v, %v) = %v, %d, %v; want %v, %d", r, towers, l, m, e, want, minutes)
	}
}

func expectFewestError(t *testing.T, r api.RoundRules, towers []int, want api.Errno) {
	t.Helper()
	if l, m, e := round.Fewest(r, towers); len(l) != 0 || m != 0 || e != want {
		t.Errorf("Fewest(%+v, %v) = %v, %d, %v; want the error %v", r, towers, l, m, e, want)
	}
}

func expectLeft(t *testing.T, r api.RoundRules, list []api.RoundDay, day int, want ...int) {
	t.Helper()
	if l, e := round.Left(r, list, day); !slices.Equal(l, want) || e != api.OK {
		t.Errorf("Left(%+v, %v, %d) = %v, %v; want %v", r, list, day, l, e, want)
	}
}

func expectStops(t *testing.T, r api.RoundRules, list []api.RoundDay, until, tower, day int) {
	t.Helper()
	if n, d, e := round.Stops(r, list, until); n != tower || d != day || e != api.OK {
		t.Errorf("Stops(%+v, %v, %d) = %d, %d, %v; want %d, %d", r, list, until, n, d, e, tower, day)
	}
}

// expectDaysError is for Left and for Stops.
func expectDaysError(t *testing.T, r api.RoundRules, list []api.RoundDay, day int, want api.Errno) {
	t.Helper()
	if l, e := round.Left(r, list, day); len(l) != 0 || e != want {
		t.Errorf("Left(%+v, %v, %d) = %v, %v; want the error %v", r, list, day, l, e, want)
	}
	if n, d, e := round.Stops(r, list, day); n != 0 || d != 0 || e != want {
		t.Errorf("Stops(%+v, %v, %d) = %d, %d, %v; want the error %v", r, list, day, n, d, e, want)
	}
}
