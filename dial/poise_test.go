package dial_test

import (
	"testing"

	"turret/api"
	"turret/dial"
)

// P4.8

func TestPoise(t *testing.T) {
	expectPoise(t, plain(), breeze(), 16, -16)
	expectPoise(t, plain(), gust(), 36, -36)
	expectPoise(t, plain(), span(-5, 25), 36, -36)
	expectPoise(t, plain(), single(0), 11, -11)
	expectPoise(t, plain(), single(7), 18, -18)
	expectPoise(t, plain(), single(-7), 18, -18)
	expectPoise(t, plain(), span(3, 7), 18, -18)
	expectPoise(t, plain(), span(-7, -3), 18, -18)
	expectPoise(t, forced(30, 0), single(0), 1, -1)
	expectPoise(t, forced(30, 0), breeze(), 6, -6)
	// The weight of the face does not matter, and neither do its links.
	for _, n := range numbers(-10000, -30, 0, 10000) {
		expectPoise(t, forced(n, 10), breeze(), 16, -16)
	}
	expectPoise(t, linked(), breeze(), 16, -16)
}

func TestPoiseAtTheGreatestWeight(t *testing.T) {
	for _, x := range []struct {
		friction int
		wind     api.Span
	}{
		{9999, single(0)}, {0, single(9999)}, {0, single(-9999)}, {0, span(-9999, 9999)}, {5000, span(-4999, 4999)}, {5000, span(-1, 4999)}, {5000, span(-4999, 1)},
	} {
		expectPoise(t, forced(0, x.friction), x.wind, 10000, -10000)
		expectPoiseError(t, forced(0, x.friction+1), x.wind, api.ErrNone)
	}
	for _, wind := range spans(single(10000), single(-10000), span(-10000, 10000), span(-1, 10000), span(-10000, 1)) {
		expectPoiseError(t, forced(0, 0), wind, api.ErrNone)
		expectPoiseError(t, forced(0, 10000), wind, api.ErrNone)
	}
}

func TestErrorsOfPoise(t *testing.T) {
	for _, f := range badFaces() {
		expectPoiseError(t, f, breeze(), api.ErrArg)
		expectPoiseError(t, f, single(10000), api.ErrArg)
		expectPoiseError(t, f, span(2, 1), api.ErrArg)
	}
	for _, wind := range badSpans(-10000, 10000) {
		expectPoiseError(t, plain(), wind, api.ErrArg)
		expectPoiseError(t, forced(0, 10000), wind, api.ErrArg)
	}
}

// steadies reports whether a weight holds a hand that falls on one side of a friction in each wind, and one that rises on the other side.
func steadies(weight, friction int, wind api.Span) (heavy, tail bool) {
	heavy, tail = true, true
	for f := wind.Low; f <= wind.High; f++ {
		heavy = heavy && f+weight > friction && f-weight < -friction
		tail = tail && f+weight < -friction && f-weight > friction
	}
	return heavy, tail
}

func TestPoiseAgainstAllWeights(t *testing.T) {
	r := seeded(16)
	for range 300 {
		friction := r.IntN(30)
		wind := randomSpan(r, 40, 30)
		heavy, tail := 0, 0
		for ok := false; !ok; heavy++ {
			ok, _ = steadies(heavy+1, friction, wind)
		}
		for ok := false; !ok; tail-- {
			_, ok = steadies(tail-1, friction, wind)
		}
		expectPoise(t, forced(7, friction), wind, heavy, tail)
		if h, n := steadies(0, friction, wind); h || n {
			t.Errorf("the weight 0 steadies a hand with the friction %d in %v", friction, wind)
		}
	}
}

// P4.13

func TestSteadyHands(t *testing.T) {
	r := seeded(17)
	for s := range settings(18, 600, few()) {
		checkSteady(t, s, numbers(0, 1, r.IntN(5000)))
	}
	for s := range settings(19, 300, many()) {
		s.wind.Low, s.wind.High = s.wind.Low/3, s.wind.High/3
		checkSteady(t, s, numbers(0, 1, r.IntN(5000)))
	}
	// With a weight that is less by 1 it is not so: in the wind of -5 a falling hand can hang anywhere.
	expectOff(t, right(forced(15, 10)), 0, 600, breeze(), span(-18, 0))
	expectOff(t, right(forced(16, 10)), 0, 600, breeze(), single(0))
	expectOff(t, right(forced(-15, 10)), 0, 600, breeze(), span(-18, 0))
	expectOff(t, right(forced(-16, 10)), 0, 600, breeze(), single(-18))
}

// checkSteady fails unless a dial is off by one integer, if its clock and how it was set are known, with weights that are greater by some numbers than what Poise returns.
func checkSteady(t *testing.T, s setting, more []int) {
	t.Helper()
	w := s.works
	f := &w.Faces[s.face]
	heavy, tail, e := dial.Poise(*f, s.wind)
	if e != api.OK {
		return
	}
	w.Error.High, f.Set.High = w.Error.Low, f.Set.Low
	for _, n := range more {
		for _, f.Weight = range numbers(min(10000, heavy+n), max(-10000, tail-n)) {
			off, e := dial.Off(w, s.face, s.at, s.wind)
			if e != api.OK || off.Low != off.High {
				t.Errorf("%v: with the weight %d the dial is off by %v, %v", s, f.Weight, off, e)
			}
		}
	}
}
