package pulse_test

import (
	"testing"

	"turret/api"
	"turret/pulse"
)

// P9.4

func TestCorrectsOfExamples(t *testing.T) {
	expectCorrects(t, zero(60, 15), 15, 15, true)
	expectCorrects(t, zero(60, 15), 16, 0, false)
	expectCorrects(t, zero(60, 15), 0, 16, false)
}

func TestCorrectsAtReach(t *testing.T) {
	for _, every := range divisors() {
		for _, reach := range numbers(0, 1, 5, 19, 20, 21, (every-1)/2) {
			if reach > (every-1)/2 {
				continue
			}
			for lost := range api.MaxPulseFaults + 1 {
				for doubled := range api.MaxPulseFaults + 1 {
					both := lost <= reach && doubled <= reach
					expectCorrects(t, zero(every, reach), lost, doubled, both)
					expectCorrects(t, count(every, reach), lost, doubled, both)
					expectCorrects(t, wait(every, reach), lost, doubled, lost <= reach)
				}
			}
		}
	}
}

func TestCorrectsOfPlain(t *testing.T) {
	for lost := range api.MaxPulseFaults + 1 {
		for doubled := range api.MaxPulseFaults + 1 {
			expectCorrects(t, plain(), lost, doubled, lost+doubled == 0)
		}
	}
}

func TestErrorsOfCorrects(t *testing.T) {
	for _, l := range goodLines() {
		for _, n := range append(wild(), -1, 21) {
			for _, m := range numbers(0, 20, n) {
				expectCorrectsError(t, l, n, m, api.ErrRange)
				expectCorrectsError(t, l, m, n, api.ErrRange)
			}
		}
	}
}

// outcome is whether a dial is right for good that had so many faults in a period.
type outcome struct {
	lost, doubled int
	right         bool
}

// outcomes returns what becomes of a dial that is right at 0, for all faults before the minute Every.
func outcomes(l api.PulseLine) map[outcome]bool {
	found := map[outcome]bool{}
	var follow func(k look, t int, o outcome)
	follow = func(k look, t int, o outcome) {
		if t < l.Every {
			follow(k.next(l, t, 1), t+1, o)
			follow(k.next(l, t, 0), t+1, outcome{lost: o.lost + 1, doubled: o.doubled})
			follow(k.next(l, t, 2), t+1, outcome{lost: o.lost, doubled: o.doubled + 1})
			return
		}
		o.right = true
		for ; t <= 6*l.Every; t++ {
			k = k.next(l, t, 1)
			o.right = o.right && (t < 2*l.Every || k.shown() == t%api.PulseDial)
		}
		found[o] = true
	}
	follow(first(l, 0, 0), 1, outcome{})
	return found
}

func TestCorrectsAgainstAllFaults(t *testing.T) {
	for _, every := range numbers(2, 3, 4, 5, 6, 8, 9) {
		for reach := range (every-1)/2 + 1 {
			for _, l := range ruled(every, reach) {
				found := outcomes(l)
				for lost := range api.MaxPulseFaults + 1 {
					for doubled := range api.MaxPulseFaults + 1 {
						want := true
						for o := range found {
							want = want && (o.right || o.lost > lost || o.doubled > doubled)
						}
						expectCorrects(t, l, lost, doubled, want)
					}
				}
			}
		}
	}
}

// isCorrected reports whether a dial that is right at 0 is right for good from the minute 2 * Every on.
func isCorrected(l api.PulseLine, list []api.PulseFault) bool {
	back, right := backOf(l, 0, list)
	return right && back <= 2*l.Every
}

// What a line corrects has no faults against it; against the rest there are faults of one kind.
func TestCorrectsAgainstSomeFaults(t *testing.T) {
	x := seeded(6)
	for range 300 {
		l := randomLine(x, 10, 20, 36, 45, 60, 90, 360)
		if l.Rule == api.PulsePlain {
			continue
		}
		many, double := x.IntN(min(l.Every, api.MaxPulseFaults+1)), x.IntN(min(l.Every, api.MaxPulseFaults+1))
		corrects, _ := pulse.Corrects(l, many, double)
		if !corrects && isCorrected(l, lost(row(1, many)...)) && isCorrected(l, doubled(row(1, double)...)) {
			t.Errorf("%v: not all of %d lost and %d doubled are corrected", l, many, double)
		}
		for range 5 {
			minutes := x.Perm(l.Every - 1)
			list := faults(lost(later(minutes, 0, many)...), doubled(later(minutes, many, double)...))
			if corrects && len(list) <= api.MaxPulseFaults && !isCorrected(l, list) {
				t.Errorf("%v: %d lost and %d doubled are corrected, but not %v", l, many, double, list)
			}
		}
	}
}

// later returns at most so many of some minutes, each by one later.
func later(minutes []int, first, many int) []int {
	var list []int
	for i := first; i < min(first+many, len(minutes)); i++ {
		list = append(list, minutes[i]+1)
	}
	return list
}
