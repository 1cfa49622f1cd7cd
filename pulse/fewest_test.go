package pulse_test

import (
	"math/rand/v2"
	"slices"
	"testing"

	"turret/api"
	"turret/pulse"
)

// P9.5

func TestFewestOfExamples(t *testing.T) {
	expectFewest(t, plain(), 0, 0, seen(at(10, 11), at(20, 20)), 2)
	expectFewest(t, plain(), 0, 0, seen(at(10, 11)), 1)
	expectFewest(t, plain(), 0, 0, seen(at(20, 20)), 0)
}

func TestFewestWithoutAnythingSeen(t *testing.T) {
	for _, l := range goodLines() {
		for _, from := range numbers(0, 1, 60, 100000) {
			for _, shown := range numbers(0, 1, 300, 719) {
				expectFewest(t, l, shown, from, nil, 0)
			}
		}
	}
}

func TestFewestWithoutFaults(t *testing.T) {
	for _, l := range goodLines()[:13] {
		for _, from := range numbers(0, 1, 59, 60, 719, 100000) {
			for _, many := range numbers(1, 2, 100, 5000) {
				expectFewest(t, l, from%720, from, seen(at(from+many, (from+many)%720)), 0)
			}
		}
	}
	for _, shown := range numbers(0, 300, 719) {
		expectFewest(t, plain(), shown, 10, seen(at(11, (shown+1)%720), at(50, (shown+40)%720)), 0)
	}
}

func TestFewestOfOffDials(t *testing.T) {
	for _, l := range kinds(60, 5) {
		for many := range 21 {
			expectFewest(t, l, 3, 3, seen(at(40, 40-many)), many)
			if l.Rule != api.PulseWait {
				expectFewest(t, l, 3, 3, seen(at(40, 40+many)), many)
			}
		}
		expectFewestError(t, l, 3, 3, seen(at(40, 40-21)), api.ErrNone)
		expectFewestError(t, l, 3, 3, seen(at(40, 40+21)), api.ErrNone)
		expectFewestError(t, l, 3, 3, seen(at(40, 400)), api.ErrNone)
	}
	// Some are lost, and then more of them; or some are doubled, and then the others are lost.
	for first := range 21 {
		expectFewest(t, plain(), 0, 0, seen(at(30, 30-first), at(60, 40)), 20)
		expectFewestError(t, plain(), 0, 0, seen(at(30, 30-first), at(60, 39)), api.ErrNone)
		expectFewest(t, plain(), 0, 0, seen(at(30, 30+first), at(60, 40+2*first)), 20)
		expectFewestError(t, plain(), 0, 0, seen(at(30, 30+first), at(60, 39+2*first)), api.ErrNone)
	}
	// Round 12 o'clock.
	expectFewest(t, plain(), 715, 0, seen(at(10, 3)), 2)
	expectFewest(t, plain(), 715, 0, seen(at(10, 6)), 1)
	expectFewest(t, plain(), 715, 0, seen(at(3, 719)), 1)
	expectFewest(t, plain(), 719, 0, seen(at(1, 719), at(2, 1)), 2)
}

func TestFewestOfSingleMinutes(t *testing.T) {
	for _, l := range kinds(60, 5) {
		expectFewest(t, l, 10, 10, seen(at(11, 10)), 1)
		expectFewest(t, l, 10, 10, seen(at(11, 11)), 0)
		expectFewest(t, l, 10, 10, seen(at(11, 12)), 1)
		expectFewestError(t, l, 10, 10, seen(at(11, 13)), api.ErrNone)
		expectFewestError(t, l, 10, 10, seen(at(11, 9)), api.ErrNone)
		expectFewest(t, l, 10, 10, seen(at(11, 12), at(12, 12), at(13, 14)), 3)
	}
	// A long impulse has no fault.
	for _, l := range ruled(60, 5) {
		expectFewest(t, l, 59, 59, seen(at(60, 60)), 0)
		expectFewestError(t, l, 59, 59, seen(at(60, 59)), api.ErrNone)
		expectFewestError(t, l, 59, 59, seen(at(60, 61)), api.ErrNone)
		expectFewest(t, l, 59, 59, seen(at(61, 62)), 1)
	}
	expectFewest(t, plain(), 59, 59, seen(at(60, 59)), 1)
	expectFewest(t, plain(), 59, 59, seen(at(60, 61)), 1)
	// Two long ones with a minute between them.
	for _, l := range ruled(2, 0) {
		expectFewest(t, l, 0, 0, seen(at(2, 1)), 1)
		expectFewestError(t, l, 0, 0, seen(at(2, 0)), api.ErrNone)
	}
	expectFewest(t, zero(2, 0), 0, 0, seen(at(40, 20)), 20)
	expectFewestError(t, zero(2, 0), 0, 0, seen(at(42, 21)), api.ErrNone)
	expectFewest(t, zero(2, 0), 0, 0, seen(at(40, 60)), 20)
}

// Corrections let a few faults do much, or hide them.
func TestFewestOfCorrections(t *testing.T) {
	// Zero goes back, or on, to another multiple.
	expectFewest(t, zero(5, 2), 0, 0, seen(at(5, 0)), 3)
	expectFewest(t, zero(5, 2), 0, 0, seen(at(5, 10)), 3)
	expectFewestError(t, zero(5, 2), 0, 0, seen(at(5, 4)), api.ErrNone)
	expectFewest(t, zero(5, 1), 0, 0, seen(at(5, 3)), 2)
	expectFewest(t, zero(5, 2), 0, 0, seen(at(30, 0)), 18)
	expectFewestError(t, zero(5, 2), 0, 0, seen(at(35, 0)), api.ErrNone)
	expectFewest(t, zero(60, 15), 0, 0, seen(at(59, 56), at(60, 60)), 3)
	expectFewestError(t, zero(60, 15), 0, 0, seen(at(60, 59)), api.ErrNone)
	expectFewest(t, zero(60, 15), 0, 0, seen(at(60, 44)), 16)
	// Wait falls back by a round.
	expectFewest(t, wait(60, 0), 0, 0, seen(at(120, 60)), 1)
	expectFewest(t, wait(60, 5), 0, 0, seen(at(120, 60)), 6)
	expectFewest(t, wait(60, 5), 0, 0, seen(at(60, 54)), 6)
	expectFewestError(t, wait(60, 5), 0, 0, seen(at(60, 55)), api.ErrNone)
	expectFewest(t, wait(60, 0), 0, 0, seen(at(2400, 1200%720)), 8)
	expectFewest(t, wait(60, 0), 0, 0, seen(at(2400, 1260%720)), 7)
	expectFewestError(t, wait(60, 0), 0, 0, seen(at(2400, 3)), api.ErrNone)
	expectFewest(t, wait(60, 5), 0, 0, seen(at(40, 59)), 19)
	expectFewest(t, wait(60, 5), 0, 0, seen(at(39, 59)), 20)
	expectFewestError(t, wait(60, 5), 0, 0, seen(at(38, 59)), api.ErrNone)
	expectFewestError(t, wait(60, 5), 0, 0, seen(at(59, 60)), api.ErrNone)
	expectFewest(t, wait(60, 5), 0, 0, seen(at(57, 59), at(58, 59), at(59, 59)), 2)
	// Count keeps what the dial was off before.
	expectFewest(t, count(60, 5), 7, 0, seen(at(60, 67)), 0)
	expectFewest(t, count(60, 5), 7, 0, seen(at(50, 53), at(60, 67)), 4)
	expectFewest(t, count(60, 5), 7, 0, seen(at(60, 61)), 6)
	expectFewestError(t, count(60, 5), 7, 0, seen(at(60, 62)), api.ErrNone)
	expectFewest(t, count(60, 5), 7, 0, seen(at(120, 127-13)), 13)
	expectFewest(t, count(60, 5), 7, 0, seen(at(120, 127-1)), 13)
	expectFewest(t, count(60, 5), 7, 30, seen(at(60, 31)), 6)
	expectFewestError(t, count(60, 5), 7, 30, seen(at(60, 32)), api.ErrNone)
}

func TestFewestOfManySeen(t *testing.T) {
	for _, l := range kinds(60, 5) {
		var list []api.PulseSeen
		for i := range 40 {
			list = append(list, at(125*(i+1), 125*(i+1)%720))
		}
		expectFewest(t, l, 0, 0, list, 0)
		expectFewest(t, l, 0, 0, list[:39], 0)
		expectFewestError(t, l, 0, 0, append(list, at(5001, 681)), api.ErrLong)
		expectFewestError(t, l, 0, 0, append(list[:39:39], at(5001, 681)), api.ErrArg)
		expectFewest(t, l, 0, 0, lostFirst(20), 20)
		expectFewest(t, l, 0, 0, lostFirst(19), 19)
		expectFewestError(t, l, 0, 0, lostFirst(21), api.ErrNone)
	}
}

// lostFirst returns what is seen minute by minute if the first impulses are lost.
func lostFirst(many int) []api.PulseSeen {
	var list []api.PulseSeen
	for t := 1; t <= api.MaxPulseSeen; t++ {
		list = append(list, at(t, max(0, t-many)))
	}
	return list
}

func TestErrorsOfFewest(t *testing.T) {
	long := make([]api.PulseSeen, 41)
	for i := range long {
		long[i] = at(i+1, i+1)
	}
	for _, l := range kinds(60, 5) {
		for _, from := range append(wild(), -1, 100001) {
			for _, shown := range numbers(0, -1, 720) {
				expectFewestError(t, l, shown, from, nil, api.ErrRange)
				expectFewestError(t, l, shown, from, long, api.ErrRange)
			}
		}
		for _, shown := range append(wild(), -1, 720) {
			expectFewestError(t, l, shown, 0, nil, api.ErrArg)
			expectFewestError(t, l, shown, 100000, long, api.ErrArg)
		}
		expectFewest(t, l, 0, 0, long[:40], 0)
		expectFewestError(t, l, 0, 0, long, api.ErrLong)
		expectFewestError(t, l, 700, 0, long, api.ErrLong)
		expectFewestError(t, l, 0, 100, long, api.ErrLong)
		expectFewestError(t, l, 0, 0, make([]api.PulseSeen, 41), api.ErrLong)
		expectFewestError(t, l, 0, 0, make([]api.PulseSeen, 40), api.ErrArg)
		for _, from := range numbers(0, 5, 100000) {
			for _, n := range append(wild(), from-1, from, from+5001) {
				expectFewestError(t, l, 0, from, seen(at(n, 0)), api.ErrArg)
				expectFewestError(t, l, 0, from, seen(at(from+1, 300), at(n, 0)), api.ErrArg)
				expectFewestError(t, l, 0, from, seen(at(n, 0), at(from+2, 300)), api.ErrArg)
			}
			for _, n := range append(wild(), -1, 720) {
				expectFewestError(t, l, 0, from, seen(at(from+1, n)), api.ErrArg)
				expectFewestError(t, l, 0, from, seen(at(from+1, 300), at(from+5, n)), api.ErrArg)
			}
			for _, list := range [][]int{{5, 5}, {5, 4}, {3, 9, 9}, {3, 9, 8}, {9, 3, 10}, {7, 7, 8}} {
				var unsorted []api.PulseSeen
				for _, n := range list {
					unsorted = append(unsorted, at(from+n, from%720+n))
				}
				expectFewestError(t, l, from%720, from, unsorted, api.ErrArg)
			}
			expectFewest(t, l, from%720, from, seen(at(from+1, (from+1)%720), at(from+5000, (from+5000)%720)), 0)
		}
	}
}

// fewestOfAll returns the fewest faults with which a dial shows what was seen, and false if there are none; all faults are tried.
func fewestOfAll(l api.PulseLine, shown, from int, list []api.PulseSeen) (int, bool) {
	fewest := api.MaxPulseFaults + 1
	var follow func(k look, t, many int, list []api.PulseSeen)
	follow = func(k look, t, many int, list []api.PulseSeen) {
		if len(list) > 0 && list[0].At == t {
			if list[0].Shown != k.shown() {
				return
			}
			list = list[1:]
		}
		if len(list) == 0 {
			fewest = min(fewest, many)
			return
		}
		follow(k.next(l, t+1, 1), t+1, many, list)
		if !isLong(l, t+1) {
			follow(k.next(l, t+1, 0), t+1, many+1, list)
			follow(k.next(l, t+1, 2), t+1, many+1, list)
		}
	}
	follow(first(l, shown, from), from, 0, list)
	return fewest, fewest <= api.MaxPulseFaults
}

// fewestByPeriods returns the same; between two minutes that are long, or at which the dial is seen, it matters only by how many minutes the dial was moved.
func fewestByPeriods(l api.PulseLine, shown, from int, list []api.PulseSeen) (int, bool) {
	looks, t := map[look]int{first(l, shown, from): 0}, from
	for _, s := range list {
		for t < s.At {
			next := s.At
			if l.Rule != api.PulsePlain {
				next = min(next, t-t%l.Every+l.Every)
			}
			looks = overPeriod(l, looks, t, next)
			t = next
		}
		for k := range looks {
			if k.shown() != s.Shown {
				delete(looks, k)
			}
		}
	}
	fewest := api.MaxPulseFaults + 1
	for _, many := range looks {
		fewest = min(fewest, many)
	}
	return fewest, fewest <= api.MaxPulseFaults
}

// overPeriod returns how dials look after the impulse of next; none between t and it is long.
func overPeriod(l api.PulseLine, looks map[look]int, t, next int) map[look]int {
	after := map[look]int{}
	sound := next - t
	if isLong(l, next) {
		sound--
	}
	for k, many := range looks {
		most := min(sound, api.MaxPulseFaults-many)
		for more := -most; more <= most; more++ {
			end := look{k.place + sound + more, k.count + sound + more}
			if l.Rule == api.PulseWait {
				end.place = min(end.place, k.place-k.place%l.Every+l.Every-1)
				end.count = 0
			}
			if isLong(l, next) {
				end = end.long(l)
			}
			total := many + max(more, -more)
			if before, found := after[end]; !found || total < before {
				after[end] = total
			}
		}
	}
	return after
}

// watch returns what is seen of a dial with some faults at some minutes.
func watch(x *rand.Rand, l api.PulseLine, shown, from int, list []api.PulseFault, until, most int) []api.PulseSeen {
	all := looks(l, shown, from, list, until)
	var result []api.PulseSeen
	for _, i := range slices.Sorted(slices.Values(x.Perm(until - from)[:min(most, until-from)])) {
		result = append(result, at(from+1+i, all[1+i].shown()))
	}
	return result
}

// finder finds the fewest faults with which a dial shows what was seen, and false if there are none.
type finder func(l api.PulseLine, shown, from int, list []api.PulseSeen) (int, bool)

// expectAs expects that Fewest finds what another finder does.
func expectAs(t *testing.T, find finder, l api.PulseLine, shown, from int, list []api.PulseSeen) {
	t.Helper()
	if fewest, found := find(l, shown, from, list); found {
		expectFewest(t, l, shown, from, list, fewest)
	} else {
		expectFewestError(t, l, shown, from, list, api.ErrNone)
	}
}

// expectAsSeen expects this of what is seen of a dial that has some faults, and of what is seen wrongly once.
func expectAsSeen(t *testing.T, find finder, x *rand.Rand, l api.PulseLine, from, many int) {
	t.Helper()
	shown, until := x.IntN(api.PulseDial), from+1+x.IntN(many)
	list := watch(x, l, shown, from, randomFaults(x, l, from, until, api.MaxPulseFaults), until, 1+x.IntN(6))
	expectAs(t, find, l, shown, from, list)
	wrong := &list[x.IntN(len(list))]
	wrong.Shown = (wrong.Shown + 710 + x.IntN(21)) % api.PulseDial
	expectAs(t, find, l, shown, from, list)
}

func TestFewestAgainstAllFaults(t *testing.T) {
	x := seeded(7)
	for range 600 {
		expectAsSeen(t, fewestOfAll, x, randomLine(x, 2, 3, 4, 5, 6, 8), x.IntN(30), 9)
	}
}

func TestFewestAgainstPeriods(t *testing.T) {
	x := seeded(8)
	for _, many := range numbers(40, 300, 1500) {
		for range 100 {
			expectAsSeen(t, fewestByPeriods, x, randomLine(x, divisors()...), x.IntN(api.MaxPulseTime+1), many)
		}
	}
}

// As long as is allowed, with one element at the end.
func TestFewestOfLongSpans(t *testing.T) {
	for _, l := range []api.PulseLine{plain(), zero(5, 1), zero(60, 0), wait(60, 0), wait(360, 3), count(15, 2), count(360, 5)} {
		for _, shown := range numbers(5000%720, 4990%720, 4940%720) {
			expectAs(t, fewestByPeriods, l, 0, 0, seen(at(5000, shown)))
		}
	}
}

// The result depends on no order of the dials that there can be.
func TestFewestIsTheSameAgain(t *testing.T) {
	x := seeded(9)
	for range 20 {
		l := randomLine(x, 3, 5, 20)
		list := watch(x, l, 0, 0, randomFaults(x, l, 0, 200, 20), 200, 2)
		n, e := pulse.Fewest(l, 0, 0, list)
		for range 5 {
			if again, f := pulse.Fewest(l, 0, 0, list); again != n || f != e {
				t.Errorf("Fewest(%v, %v) = %d, %v, and then %d, %v", l, list, n, e, again, f)
			}
		}
	}
}
