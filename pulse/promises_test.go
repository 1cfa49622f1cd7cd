package pulse_test

import (
	"slices"
	"testing"

	"turret/api"
	"turret/pulse"
)

// P9.6

func TestRightAgain(t *testing.T) {
	x := seeded(20)
	for range 400 {
		l := randomLine(x, 2, 3, 5, 9, 10, 20, 60, 360)
		if l.Rule == api.PulsePlain {
			continue
		}
		start := l.Every * x.IntN(api.MaxPulseTime/l.Every)
		list := randomFaults(x, l, start, start+l.Every-1, x.IntN(api.MaxPulseFaults+1))
		many := func(kind api.PulseKind) int {
			other := func(f api.PulseFault) bool { return f.Kind != kind }
			return len(slices.DeleteFunc(slices.Clone(list), other))
		}
		if corrects, _ := pulse.Corrects(l, many(api.PulseLost), many(api.PulseDouble)); !corrects {
			continue
		}
		if back, e := pulse.Back(l, start, list); e != api.OK || back > start+2*l.Every {
			t.Errorf("%v corrects %v, but is right again at %d, %v", l, list, back, e)
		}
		for _, later := range numbers(0, 1, l.Every-1, l.Every, 2*l.Every+1, 3000) {
			until := start + 2*l.Every + later
			expectRun(t, l, start%720, start, list, until, until%720)
		}
	}
}

// P9.7

func TestWithoutFaultsItStaysRight(t *testing.T) {
	for _, l := range goodLines() {
		for _, from := range numbers(0, 7, 359, 99999) {
			for until := from; until < from+5000; until += 397 {
				expectRun(t, l, from%720, from, nil, until, until%720)
			}
		}
	}
}

func TestTwoRunsAreOne(t *testing.T) {
	x := seeded(21)
	for range 2000 {
		l := randomLine(x, divisors()...)
		from, shown := x.IntN(api.MaxPulseTime-2000), x.IntN(720)
		middle := from + x.IntN(600)
		if l.Rule != api.PulsePlain {
			middle += l.Every - middle%l.Every
		}
		until := middle + x.IntN(600)
		list := randomFaults(x, l, from, until, api.MaxPulseFaults)
		after := list[len(upTo(middle, list)):]
		then, _ := pulse.Run(l, shown, from, upTo(middle, list), middle)
		once, _ := pulse.Run(l, shown, from, list, until)
		expectRun(t, l, then, middle, after, until, once)
	}
}

// P9.8

func TestFewerFaultsAreCorrected(t *testing.T) {
	corrects := func(l api.PulseLine, lost, doubled int) bool {
		b, e := pulse.Corrects(l, lost, doubled)
		return b && e == api.OK
	}
	for _, l := range goodLines() {
		more := l
		more.Reach++
		for lost := range api.MaxPulseFaults + 1 {
			for doubled := range api.MaxPulseFaults + 1 {
				if !corrects(l, lost, doubled) {
					continue
				}
				if lost > 0 && !corrects(l, lost-1, doubled) || doubled > 0 && !corrects(l, lost, doubled-1) {
					t.Errorf("%v corrects %d lost and %d doubled ones, but not fewer", l, lost, doubled)
				}
				if pulse.Check(more) == api.OK && !corrects(more, lost, doubled) {
					t.Errorf("%v corrects %d lost and %d doubled ones, but not with a greater Reach", l, lost, doubled)
				}
			}
		}
	}
}

func TestWaitCorrectsDoubledImpulses(t *testing.T) {
	x := seeded(22)
	for _, every := range divisors() {
		for _, reach := range numbers(0, (every-1)/2) {
			l := wait(every, reach)
			for many := range api.MaxPulseFaults + 1 {
				expectCorrects(t, l, 0, many, true)
				var minutes []int
				for _, f := range randomFaults(x, l, 0, every-1, many) {
					minutes = append(minutes, f.At)
				}
				expectRun(t, l, 0, 0, doubled(minutes...), every, every)
			}
		}
	}
}

// P9.9

func TestTheTruthHasNoFewerFaults(t *testing.T) {
	x := seeded(23)
	for range 300 {
		l := randomLine(x, divisors()...)
		from, shown := x.IntN(api.MaxPulseTime+1), x.IntN(720)
		until := from + 1 + x.IntN([]int{40, 300, 1500}[x.IntN(3)])
		truth := randomFaults(x, l, from, until, x.IntN(api.MaxPulseFaults+1))
		list := watch(x, l, shown, from, truth, until, 1+x.IntN(40))
		many, e := pulse.Fewest(l, shown, from, list)
		if e != api.OK || many > len(truth) {
			t.Errorf("%v, %v from %d, %d: %d faults, %v; the truth is %v", l, list, shown, from, many, e, truth)
		}
		i := x.IntN(len(list))
		list = slices.Delete(list, i, i+1)
		if fewer, e := pulse.Fewest(l, shown, from, list); e != api.OK || fewer > many {
			t.Errorf("%v, %v from %d, %d: %d faults, %v; with more that was seen %d", l, list, shown, from, fewer, e, many)
		}
	}
}
