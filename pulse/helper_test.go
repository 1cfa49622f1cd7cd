package pulse_test

import (
	"maps"
	"math"
	"math/rand/v2"
	"slices"
	"testing"

	"turret/api"
	"turret/pulse"
)

func numbers(n ...int) []int { return n }

// wild are numbers that nothing allows.
func wild() []int {
	return numbers(math.MinInt, math.MinInt+1, math.MinInt32, -1000, math.MaxInt32, math.MaxInt-api.MaxPulseSpan, math.MaxInt-1, math.MaxInt)
}

func seeded(n uint64) *rand.Rand { return rand.New(rand.NewPCG(n, 9)) }

func plain() api.PulseLine { return api.PulseLine{} }

func zero(every, reach int) api.PulseLine {
	return api.PulseLine{Rule: api.PulseZero, Every: every, Reach: reach}
}

func wait(every, reach int) api.PulseLine {
	return api.PulseLine{Rule: api.PulseWait, Every: every, Reach: reach}
}

func count(every, reach int) api.PulseLine {
	return api.PulseLine{Rule: api.PulseCount, Every: every, Reach: reach}
}

// ruled returns the lines of all rules but PulsePlain.
func ruled(every, reach int) []api.PulseLine {
	return []api.PulseLine{zero(every, reach), wait(every, reach), count(every, reach)}
}

// kinds returns the lines of all rules.
func kinds(every, reach int) []api.PulseLine { return append(ruled(every, reach), plain()) }

// divisors are all numbers that Every can be.
func divisors() []int {
	return numbers(2, 3, 4, 5, 6, 8, 9, 10, 12, 15, 16, 18, 20, 24, 30, 36, 40, 45, 48, 60, 72, 80, 90, 120, 144, 180, 240, 360)
}

// randomLine returns some line with an Every of a list.
func randomLine(x *rand.Rand, everies ...int) api.PulseLine {
	every := everies[x.IntN(len(everies))]
	most := (every - 1) / 2
	reach := x.IntN(most + 1)
	if x.IntN(2) == 0 {
		reach = x.IntN(min(most, 6) + 1)
	}
	all := kinds(every, reach)
	return all[x.IntN(len(all))]
}

func lost(at ...int) []api.PulseFault { return faultsOf(api.PulseLost, at) }

func doubled(at ...int) []api.PulseFault { return faultsOf(api.PulseDouble, at) }

func faultsOf(kind api.PulseKind, at []int) []api.PulseFault {
	var list []api.PulseFault
	for _, t := range at {
		list = append(list, api.PulseFault{At: t, Kind: kind})
	}
	return list
}

// faults returns lists of faults as one, in the order of their minutes.
func faults(lists ...[]api.PulseFault) []api.PulseFault {
	all := slices.Concat(lists...)
	slices.SortStableFunc(all, func(a, b api.PulseFault) int { return a.At - b.At })
	return all
}

// row returns so many minutes from one on.
func row(first, many int) []int {
	var list []int
	for i := range many {
		list = append(list, first+i)
	}
	return list
}

func seen(s ...api.PulseSeen) []api.PulseSeen { return s }

func at(t, shown int) api.PulseSeen { return api.PulseSeen{At: t, Shown: shown} }

func isLong(l api.PulseLine, t int) bool { return l.Rule != api.PulsePlain && t%l.Every == 0 }

// randomFaults returns at most so many faults after from, until another minute.
func randomFaults(x *rand.Rand, l api.PulseLine, from, until, most int) []api.PulseFault {
	at := map[int]bool{}
	for range most {
		if t := from + 1 + x.IntN(max(1, until-from)); t <= until && !isLong(l, t) {
			at[t] = true
		}
	}
	var list []api.PulseFault
	mixed := x.IntN(3)
	for _, t := range slices.Sorted(maps.Keys(at)) {
		kind := api.PulseKind(mixed)
		if mixed == 0 {
			kind = api.PulseKind(1 + x.IntN(2))
		}
		list = append(list, api.PulseFault{At: t, Kind: kind})
	}
	return list
}

// look is what is seen of a dial, without going back at 12 o'clock, and how often it moved since the last long impulse.
type look struct{ place, count int }

// first returns how a dial looks that is followed from a minute on; it can go back far.
func first(l api.PulseLine, shown, from int) look {
	if l.Rule == api.PulsePlain {
		return look{shown + 1000*api.PulseDial, 0}
	}
	return look{shown + 1000*api.PulseDial, from % l.Every}
}

func (k look) shown() int { return k.place % api.PulseDial }

// next returns how a dial looks after the impulse of a minute, whose moves are so many.
func (k look) next(l api.PulseLine, t, moves int) look {
	if isLong(l, t) {
		return k.long(l)
	}
	for range moves {
		if l.Rule != api.PulseWait || (k.place+1)%l.Every != 0 {
			k.place++
			k.count++
		}
	}
	return k
}

// long returns how a dial looks after a long impulse: the corrections that the line can do are tried.
func (k look) long(l api.PulseLine) look {
	k.place++
	k.count++
	for x := -l.Reach; x <= l.Reach; x++ {
		fits := (k.place+x)%l.Every == 0 && (l.Rule == api.PulseZero || l.Rule == api.PulseWait && x > 0)
		if fits || l.Rule == api.PulseCount && k.count+x == l.Every {
			return look{place: k.place + x}
		}
	}
	return look{place: k.place}
}

// looks returns how a dial looks from a minute on, until another one.
func looks(l api.PulseLine, shown, from int, faults []api.PulseFault, until int) []look {
	list := []look{first(l, shown, from)}
	for t := from + 1; t <= until; t++ {
		moves := 1
		if i := slices.IndexFunc(faults, func(f api.PulseFault) bool { return f.At == t }); i >= 0 {
			moves = 2 * int(faults[i].Kind-api.PulseLost)
		}
		list = append(list, list[len(list)-1].next(l, t, moves))
	}
	return list
}

// shows returns what a dial that is looked at shows after the impulse of until.
func shows(l api.PulseLine, shown, from int, faults []api.PulseFault, until int) int {
	list := looks(l, shown, from, faults, until)
	return list[len(list)-1].shown()
}

func expectRun(t *testing.T, l api.PulseLine, shown, from int, faults []api.PulseFault, until, want int) {
	t.Helper()
	if n, e := pulse.Run(l, shown, from, faults, until); n != want || e != api.OK {
		t.Errorf("Run(%v, %d, %d, %v, %d) = %d, %v; want %d", l, shown, from, faults, until, n, e, want)
	}
}

func expectRunError(t *testing.T, l api.PulseLine, shown, from int, faults []api.PulseFault, until int, want api.Errno) {
	t.Helper()
	if n, e := pulse.Run(l, shown, from, faults, until); n != 0 || e != want {
		t.Errorf("Run(%v, %d, %d, %v, %d) = %d, %v; want the error %v", l, shown, from, faults, until, n, e, want)
	}
}

func expectBack(t *testing.T, l api.PulseLine, from int, faults []api.PulseFault, want int) {
	t.Helper()
	if n, e := pulse.Back(l, from, faults); n != want || e != api.OK {
		t.Errorf("Back(%v, %d, %v) = %d, %v; want %d", l, from, faults, n, e, want)
	}
}

func expectBackError(t *testing.T, l api.PulseLine, from int, faults []api.PulseFault, want api.Errno) {
	t.Helper()
	if n, e := pulse.Back(l, from, faults); n != 0 || e != want {
		t.Errorf("Back(%v, %d, %v) = %d, %v; want the error %v", l, from, faults, n, e, want)
	}
}

func expectCorrects(t *testing.T, l api.PulseLine, lost, doubled int, want bool) {
	t.Helper()
	if b, e := pulse.Corrects(l, lost, doubled); b != want || e != api.OK {
		t.Errorf("Corrects(%v, %d, %d) = %v, %v; want %v", l, lost, doubled, b, e, want)
	}
}

func expectCorrectsError(t *testing.T, l api.PulseLine, lost, doubled int, want api.Errno) {
	t.Helper()
	if b, e := pulse.Corrects(l, lost, doubled); b || e != want {
		t.Errorf("Corrects(%v, %d, %d) = %v, %v; want the error %v", l, lost, doubled, b, e, want)
	}
}

func expectFewest(t *testing.T, l api.PulseLine, shown, from int, seen []api.PulseSeen, want int) {
	t.Helper()
	if n, e := pulse.Fewest(l, shown, from, seen); n != want || e != api.OK {
		t.Errorf("Fewest(%v, %d, %d, %v) = %d, %v; want %d", l, shown, from, seen, n, e, want)
	}
}

func expectFewestError(t *testing.T, l api.PulseLine, shown, from int, seen []api.PulseSeen, want api.Errno) {
	t.Helper()
	if n, e := pulse.Fewest(l, shown, from, seen); n != 0 || e != want {
		t.Errorf("Fewest(%v, %d, %d, %v) = %d, %v; want the error %v", l, shown, from, seen, n, e, want)
	}
}
