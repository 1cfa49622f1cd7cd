package pulse_test

import (
	"math"
	"slices"
	"testing"

	"turret/api"
	"turret/pulse"
)

// goodLines are valid, and have least and greatest values.
func goodLines() []api.PulseLine {
	list := []api.PulseLine{plain()}
	for _, every := range divisors() {
		most := (every - 1) / 2
		for _, reach := range numbers(0, most/2, most) {
			list = append(list, ruled(every, reach)...)
		}
	}
	return list
}

// badLines are not valid.
func badLines() []api.PulseLine {
	var list []api.PulseLine
	for _, n := range append(wild(), -1, 1, 2, 60) {
		list = append(list, api.PulseLine{Every: n}, api.PulseLine{Reach: n}, api.PulseLine{Every: n, Reach: n}, api.PulseLine{Every: 60, Reach: n})
	}
	for _, rule := range append(wild(), -1, 4, 5, 8, 256, 257) {
		l := api.PulseLine{Rule: api.PulseRule(rule)}
		list = append(list, l)
		l.Every, l.Reach = 60, 5
		list = append(list, l)
	}
	for every := -720; every <= 2000; every++ {
		if !slices.Contains(divisors(), every) {
			list = append(list, ruled(every, 0)...)
		}
	}
	for _, every := range wild() {
		list = append(list, ruled(every, 0)...)
	}
	for _, every := range divisors() {
		most := (every - 1) / 2
		for _, reach := range append(wild(), -1, -2, most+1, most+2, every, every+1) {
			list = append(list, ruled(every, reach)...)
		}
	}
	return list
}

// P9.1

func TestCheckAcceptsLines(t *testing.T) {
	for _, l := range goodLines() {
		if e := pulse.Check(l); e != api.OK {
			t.Errorf("Check(%v) = %v", l, e)
		}
		expectRun(t, l, 5, 0, nil, 0, 5)
		expectBack(t, l, 7, nil, 7)
		expectCorrects(t, l, 0, 0, true)
		expectFewest(t, l, 5, 0, nil, 0)
	}
}

// Reach is at most half of what is less than Every, rounded down.
func TestCheckOfReach(t *testing.T) {
	for every, most := range map[int]int{2: 0, 3: 1, 4: 1, 5: 2, 6: 2, 9: 4, 10: 4, 15: 7, 16: 7, 45: 22, 60: 29, 360: 179} {
		for _, l := range ruled(every, most) {
			if e := pulse.Check(l); e != api.OK {
				t.Errorf("Check(%v) = %v", l, e)
			}
			l.Reach++
			if e := pulse.Check(l); e != api.ErrArg {
				t.Errorf("Check(%v) = %v", l, e)
			}
		}
	}
}

// The errors of lines come first, whatever else is wrong.
func TestCheckRejectsLines(t *testing.T) {
	for _, l := range badLines() {
		if e := pulse.Check(l); e != api.ErrArg {
			t.Errorf("Check(%v) = %v", l, e)
		}
		for _, n := range numbers(0, 7, -1, 100001, math.MinInt) {
			for _, f := range [][]api.PulseFault{nil, lost(8), lost(8, 8), lost(row(1, 21)...)} {
				expectRunError(t, l, n, 0, f, 60, api.ErrArg)
				expectRunError(t, l, 0, n, f, 60, api.ErrArg)
				expectRunError(t, l, 0, 0, f, n, api.ErrArg)
				expectBackError(t, l, n, f, api.ErrArg)
			}
			expectCorrectsError(t, l, n, 0, api.ErrArg)
			expectCorrectsError(t, l, 0, n, api.ErrArg)
			for _, s := range [][]api.PulseSeen{nil, seen(at(8, 8)), seen(at(-1, -1)), make([]api.PulseSeen, 41)} {
				expectFewestError(t, l, n, 0, s, api.ErrArg)
				expectFewestError(t, l, 0, n, s, api.ErrArg)
			}
		}
	}
}

// R3, R4

func TestNilAndEmpty(t *testing.T) {
	for _, l := range kinds(60, 5) {
		expectRun(t, l, 100, 3, []api.PulseFault{}, 40, shows(l, 100, 3, nil, 40))
		expectBack(t, l, 3, []api.PulseFault{}, 3)
		expectFewest(t, l, 100, 3, []api.PulseSeen{}, 0)
	}
}

func TestArgumentsAreNotChanged(t *testing.T) {
	x := seeded(1)
	for range 100 {
		l := randomLine(x, 3, 10, 60)
		f := randomFaults(x, l, 50, 150, 20)
		s := seen(at(60, 5), at(70, 16), at(90, 36))
		f = append(f, lost(9999)...)[:len(f)]
		s = append(s, at(9999, 9999))[:3]
		before := slices.Clone(f[:len(f)+1])
		pulse.Run(l, 5, 50, f, 150)
		pulse.Back(l, 50, f)
		pulse.Fewest(l, 5, 50, s)
		if !slices.Equal(f[:len(f)+1], before) || !slices.Equal(s[:4], seen(at(60, 5), at(70, 16), at(90, 36), at(9999, 9999))) {
			t.Errorf("%v: the arguments became %v, %v", l, f, s)
		}
	}
}

// P1

func TestAnyArguments(t *testing.T) {
	lines := append(goodLines()[:7], badLines()[:60]...)
	all := append(wild(), -1, 0, 1, 719, 720, 5000, 5001, 100000, 100001, 105000)
	for _, l := range lines {
		for _, n := range all {
			for _, m := range all {
				f := []api.PulseFault{{At: n, Kind: api.PulseKind(m)}, {At: m, Kind: api.PulseLost}}
				s := seen(at(n, m), at(m, n))
				for _, from := range numbers(0, n, m) {
					pulse.Run(l, n, from, f[:1], m)
					pulse.Run(l, n, from, f[1:], m)
					pulse.Run(l, 0, from, f, m)
					pulse.Back(l, from, f[:1])
					pulse.Back(l, from, f[1:])
					pulse.Fewest(l, m, from, s)
				}
				pulse.Corrects(l, n, m)
			}
		}
	}
}
