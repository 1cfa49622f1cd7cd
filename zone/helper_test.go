package zone_test

import (
	"math"
	"math/rand/v2"
	"slices"
	"testing"

	"turret/api"
	"turret/zone"
)

func numbers(n ...int) []int { return n }

// wild are numbers that nothing allows.
func wild() []int {
	return numbers(math.MinInt, math.MinInt+1, math.MinInt/60, -1<<40, 1<<40, math.MaxInt/60, math.MaxInt-1, math.MaxInt)
}

func seeded(n uint64) *rand.Rand { return rand.New(rand.NewPCG(n, 10)) }

// from returns a random integer from low to high.
func from(x *rand.Rand, low, high int) int { return low + x.IntN(high-low+1) }

func span(low, high int) api.Span { return api.Span{Low: low, High: high} }

func single(n int) api.Span { return span(n, n) }

func spans(s ...api.Span) []api.Span { return s }

func change(at, offset int) api.ZoneChange { return api.ZoneChange{At: at, Offset: offset} }

func changes(c ...api.ZoneChange) []api.ZoneChange { return c }

func town(offset int, c ...api.ZoneChange) api.ZoneTown {
	return api.ZoneTown{Offset: offset, Changes: c}
}

// office is the town whose clocks are those of the office.
func office() api.ZoneTown { return town(0) }

// railway is the chapter's town.
func railway() api.ZoneTown { return town(-300, change(36000, 0)) }

// back is the chapter's other town, with the two exchanged.
func back() api.ZoneTown { return town(0, change(36000, -300)) }

// later returns a town with one more change.
func later(z api.ZoneTown, at, offset int) api.ZoneTown {
	return api.ZoneTown{Offset: z.Offset, Changes: append(slices.Clone(z.Changes), change(at, offset))}
}

// many returns a town with so many changes, a day apart, each by a minute.
func many(n int) api.ZoneTown {
	z := office()
	for i := range n {
		z = later(z, (i+1)*api.Day, 60*(i%2+1))
	}
	return z
}

// lastAt returns the At of the last change of a town.
func lastAt(z api.ZoneTown) int {
	if n := len(z.Changes); n > 0 {
		return z.Changes[n-1].At
	}
	return 0
}

// lastOffset returns the offset after all changes of a town.
func lastOffset(z api.ZoneTown) int { return offsetAt(z, api.MaxTime) }

// randomTown returns a town with at most so many changes from an instant to another, and offsets up to a number.
func randomTown(x *rand.Rand, most, low, high, offset int) api.ZoneTown {
	at := map[int]bool{}
	for range x.IntN(most + 1) {
		at[from(x, low, high)] = true
	}
	unit := []int{1, 7, 30, 60}[x.IntN(4)]
	some := func() int { return from(x, -offset/unit, offset/unit) * unit }
	z := town(some())
	for t := low; t <= high; t++ {
		if at[t] {
			z = later(z, t, some())
		}
	}
	return z
}

// The model: all instants are looked at, one by one.

func offsetAt(z api.ZoneTown, t int) int {
	for i := len(z.Changes) - 1; i >= 0; i-- {
		if z.Changes[i].At <= t {
			return z.Changes[i].Offset
		}
	}
	return z.Offset
}

func floor(n, by int) int {
	if n < 0 {
		return -((-n + by - 1) / by)
	}
	return n / by
}

func minuteAt(z api.ZoneTown, t int) int { return floor(t+offsetAt(z, t), 60) }

// add returns spans with one more integer, which is above all others.
func add(list []api.Span, n int) []api.Span {
	if last := len(list) - 1; last >= 0 && list[last].High == n-1 {
		list[last].High = n
		return list
	}
	return append(list, single(n))
}

// added returns a set of integers as spans.
func added(set map[int]bool) []api.Span {
	var all []int
	for n := range set {
		all = append(all, n)
	}
	slices.Sort(all)
	var list []api.Span
	for _, n := range all {
		list = add(list, n)
	}
	return list
}

// comes returns at which instants a minute comes.
func comes(z api.ZoneTown, minute int) []api.Span {
	low, high := z.Offset, z.Offset
	for _, c := range z.Changes {
		low, high = min(low, c.Offset), max(high, c.Offset)
	}
	var list []api.Span
	for t := max(0, minute*60-high); t <= min(api.MaxTime, minute*60+59-low); t++ {
		if minuteAt(z, t) == minute {
			list = add(list, t)
		}
	}
	return list
}

// comesOnce reports whether each minute comes once.
func comesOnce(z api.ZoneTown, minutes ...int) bool {
	for _, m := range minutes {
		if l := comes(z, m); len(l) != 1 || l[0].High-l[0].Low != 59 {
			return false
		}
	}
	return true
}

// has reports whether an integer lies in one of some spans.
func has(list []api.Span, n int) bool {
	return slices.ContainsFunc(list, func(s api.Span) bool { return s.Low <= n && n <= s.High })
}

// apart reports whether spans ascend, with an integer between each and the next one.
func apart(list []api.Span) bool {
	for i, s := range list {
		if s.Low > s.High || i > 0 && s.Low <= list[i-1].High+1 {
			return false
		}
	}
	return true
}

// instants are all instants of spans.
func instants(list []api.Span) []int {
	var all []int
	for _, s := range list {
		for t := s.Low; t <= s.High; t++ {
			all = append(all, t)
		}
	}
	return all
}

func expectSays(t *testing.T, z api.ZoneTown, at, day, second int) {
	t.Helper()
	if d, s, e := zone.Says(z, at); d != day || s != second || e != api.OK {
		t.Errorf("Says(%v, %d) = %d, %d, %v; want %d, %d", z, at, d, s, e, day, second)
	}
}

func expectSaysError(t *testing.T, z api.ZoneTown, at int, want api.Errno) {
	t.Helper()
	if d, s, e := zone.Says(z, at); d != 0 || s != 0 || e != want {
		t.Errorf("Says(%v, %d) = %d, %d, %v; want the error %v", z, at, d, s, e, want)
	}
}

func expectMeans(t *testing.T, z api.ZoneTown, minute int, want ...api.Span) {
	t.Helper()
	if l, e := zone.Means(z, minute); !slices.Equal(l, want) || e != api.OK {
		t.Errorf("Means(%v, %d) = %v, %v; want %v", z, minute, l, e, want)
	}
}

func expectMeansError(t *testing.T, z api.ZoneTown, minute int, want api.Errno) {
	t.Helper()
	if l, e := zone.Means(z, minute); len(l) != 0 || e != want {
		t.Errorf("Means(%v, %d) = %v, %v; want the error %v", z, minute, l, e, want)
	}
}

func expectOdd(t *testing.T, z api.ZoneTown, twice, never []api.Span) {
	t.Helper()
	if a, b, e := zone.Odd(z); !slices.Equal(a, twice) || !slices.Equal(b, never) || e != api.OK {
		t.Errorf("Odd(%v) = %v, %v, %v; want %v, %v", z, a, b, e, twice, never)
	}
}

func expectOddError(t *testing.T, z api.ZoneTown, want api.Errno) {
	t.Helper()
	if a, b, e := zone.Odd(z); len(a)+len(b) != 0 || e != want {
		t.Errorf("Odd(%v) = %v, %v, %v; want the error %v", z, a, b, e, want)
	}
}

func expectHands(t *testing.T, a, b api.ZoneTown, first, second int, near api.Span, want ...api.Span) {
	t.Helper()
	if l, e := zone.Hands(a, b, first, second, near); !slices.Equal(l, want) || e != api.OK {
		t.Errorf("Hands(%v, %v, %d, %d, %v) = %v, %v; want %v", a, b, first, second, near, l, e, want)
	}
}

func expectHandsError(t *testing.T, a, b api.ZoneTown, first, second int, near api.Span, want api.Errno) {
	t.Helper()
	if l, e := zone.Hands(a, b, first, second, near); len(l) != 0 || e != want {
		t.Errorf("Hands(%v, %v, %d, %d, %v) = %v, %v; want the error %v", a, b, first, second, near, l, e, want)
	}
}

func expectBefore(t *testing.T, a api.ZoneTown, deadline int, b api.ZoneTown, done int, surely, possibly bool) {
	t.Helper()
	if s, p, e := zone.Before(a, deadline, b, done); s != surely || p != possibly || e != api.OK {
		t.Errorf("Before(%v, %d, %v, %d) = %v, %v, %v; want %v, %v", a, deadline, b, done, s, p, e, surely, possibly)
	}
}

func expectBeforeError(t *testing.T, a api.ZoneTown, deadline int, b api.ZoneTown, done int, want api.Errno) {
	t.Helper()
	if s, p, e := zone.Before(a, deadline, b, done); s || p || e != want {
		t.Errorf("Before(%v, %d, %v, %d) = %v, %v, %v; want the error %v", a, deadline, b, done, s, p, e, want)
	}
}

func expectArrive(t *testing.T, a api.ZoneTown, minute int, run api.Span, b api.ZoneTown, want ...api.Span) {
	t.Helper()
	if l, e := zone.Arrive(a, minute, run, b); !slices.Equal(l, want) || e != api.OK {
		t.Errorf("Arrive(%v, %d, %v, %v) = %v, %v; want %v", a, minute, run, b, l, e, want)
	}
}

func expectArriveError(t *testing.T, a api.ZoneTown, minute int, run api.Span, b api.ZoneTown, want api.Errno) {
	t.Helper()
	if l, e := zone.Arrive(a, minute, run, b); len(l) != 0 || e != want {
		t.Errorf("Arrive(%v, %d, %v, %v) = %v, %v; want the error %v", a, minute, run, b, l, e, want)
	}
}

func expectChange(t *testing.T, z api.ZoneTown, offset int, contracts []int, when api.Span, want int) {
	t.Helper()
	if at, e := zone.Change(z, offset, contracts, when); at != want || e != api.OK {
		t.Errorf("Change(%v, %d, %v, %v) = %d, %v; want %d", z, offset, contracts, when, at, e, want)
	}
}

func expectChangeError(t *testing.T, z api.ZoneTown, offset int, contracts []int, when api.Span, want api.Errno) {
	t.Helper()
	if at, e := zone.Change(z, offset, contracts, when); at != 0 || e != want {
		t.Errorf("Change(%v, %d, %v, %v) = %d, %v; want the error %v", z, offset, contracts, when, at, e, want)
	}
}

func expectMove(t *testing.T, z api.ZoneTown, offset, step int, contracts []int, nights []api.Span, want ...api.ZoneChange) {
	t.Helper()
	if l, e := zone.Move(z, offset, step, contracts, nights); !slices.Equal(l, want) || e != api.OK {
		t.Errorf("Move(%v, %d, %d, %v, %v) = %v, %v; want %v", z, offset, step, contracts, nights, l, e, want)
	}
}

func expectMoveError(t *testing.T, z api.ZoneTown, offset, step int, contracts []int, nights []api.Span, want api.Errno) {
	t.Helper()
	if l, e := zone.Move(z, offset, step, contracts, nights); len(l) != 0 || e != want {
		t.Errorf("Move(%v, %d, %d, %v, %v) = %v, %v; want the error %v", z, offset, step, contracts, nights, l, e, want)
	}
}
