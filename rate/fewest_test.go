package rate_test

import (
	"iter"
	"math/rand/v2"
	"testing"

	"turret/api"
)

// steady returns rules with which a clock can often be regulated: it does nearly what is expected.
func steady(x *rand.Rand) api.RateRules {
	r := rules(x.IntN(9), x.IntN(3), span(0, 0), x.IntN(5))
	gain := func(most int) api.Span {
		low := 1 + x.IntN(most)
		return span(low, low+x.IntN(1+x.IntN(3)))
	}
	r.Turn = gain(10)
	for range x.IntN(4) {
		r.Weights = append(r.Weights, gain(14))
	}
	return r
}

// steadyCases yields steady rules and states that are not far from good ones.
func steadyCases(seed uint64, many, far, wide int) iter.Seq2[api.RateRules, api.RateState] {
	return func(yield func(api.RateRules, api.RateState) bool) {
		x := seeded(seed)
		for range many {
			r := steady(x)
			low := x.IntN(2*far+1) - far
			if !yield(r, state(low, low+x.IntN(wide+1), randomUsed(x, r)...)) {
				return
			}
		}
	}
}

// hardest are rules and states with many visits, or with many states that can come next.
func hardest() iter.Seq2[api.RateRules, api.RateState] {
	return func(yield func(api.RateRules, api.RateState) bool) {
		for _, c := range []struct {
			r api.RateRules
			s api.Span
		}{
			{rules(61, 50, span(5, 21), 6, span(19, 43), span(21, 39), span(4, 55)), span(-43, 147)},
			{rules(70, 50, span(6, 25), 10, span(8, 35), span(37, 50), span(3, 48)), span(-97, 247)},
			{rules(53, 48, span(26, 29), 3, span(48, 48), span(12, 16), span(3, 11)), span(-242, 288)},
			{rules(68, 50, span(5, 29), 10, span(36, 41), span(24, 41), span(42, 42)), span(-10, 233)},
			{rules(22, 5, span(7, 18), 10, span(20, 20), span(7, 7), span(22, 24)), span(-44, 300)},
			{rules(33, 24, span(11, 23), 7, span(18, 18), span(6, 12), span(26, 34)), span(-123, 245)},
		} {
			if !yield(c.r, state(c.s.Low, c.s.High, false, false, false)) {
				return
			}
		}
	}
}

// P7.3

func TestFewest(t *testing.T) {
	expectFewest(t, example(), state(0, 5, false), 0)
	expectFewest(t, example(), state(8, 10, false), 1)
	expectFewest(t, example(), state(-9, -8, false), 1)
	expectFewest(t, example(), state(8, 18, false), 2)
	expectFewestError(t, example(), state(8, 18, true), api.ErrNone)
	expectFewest(t, example(), state(-6, -4, false), 1)
	expectFewestError(t, example(), state(-6, -4, true), api.ErrNone)
}

// Rates that are good already, and others by one not.
func TestGoodAlready(t *testing.T) {
	for _, used := range [][]bool{{false}, {true}} {
		for _, s := range spans(span(-5, 5), span(-5, -5), span(5, 5), span(0, 0), span(-5, 0), span(0, 5), span(-4, 4)) {
			expectFewest(t, example(), state(s.Low, s.High, used...), 0)
		}
	}
	for _, s := range spans(span(6, 6), span(-6, -6), span(5, 6), span(-6, -4)) {
		expectFewest(t, example(), state(s.Low, s.High, false), 1)
	}
	expectFewest(t, example(), state(-6, 5, false), 2)
	expectFewest(t, example(), state(4, 6, false), 2)
	expectFewest(t, example(), state(-5, 6, false), 3)
	expectFewest(t, example(), state(-6, 6, false), 3)
	// With the greatest Limit all rates are good; with the next smaller one not the greatest rates.
	all := rules(300, 50, span(1, 100), 0)
	for _, s := range spans(span(-300, 300), span(300, 300), span(-300, -300)) {
		expectFewest(t, all, state(s.Low, s.High), 0)
	}
	all.Limit = 299
	expectFewest(t, all, state(-299, 299), 0)
	expectFewestError(t, all, state(300, 300), api.ErrNone)
	expectFewestError(t, all, state(-300, 299), api.ErrNone)
	all.Turns = 1
	all.Turn = span(1, 1)
	expectFewest(t, all, state(300, 300), 1)
	expectFewest(t, all, state(-300, 298), 1)
	// What is seen tells to which side the rate is wrong.
	expectFewest(t, all, state(-300, 300), 2)
	none := rules(0, 0, span(1, 1), 0)
	expectFewest(t, none, state(0, 0), 0)
	for _, s := range spans(span(1, 1), span(-1, -1), span(0, 1), span(-1, 0)) {
		expectFewestError(t, none, state(s.Low, s.High), api.ErrNone)
	}
}

// As many visits as are allowed, and one more.
func TestAsManyVisitsAsAreAllowed(t *testing.T) {
	for n := -300; n <= 300; n++ {
		for _, most := range numbers(1, 2, 3, 7, 10) {
			far := max(n, -n)
			if visits := (far + most - 1) / most; visits <= 6 {
				expectFewest(t, steps(most), state(n, n), visits)
			} else {
				expectFewestError(t, steps(most), state(n, n), api.ErrNone)
			}
		}
	}
	// A weight is a visit, too.
	expectFewest(t, steps(10, span(100, 100)), state(-150, -150, false), 6)
	expectFewestError(t, steps(10, span(100, 100)), state(-151, -151, false), api.ErrNone)
	expectFewestError(t, steps(10, span(100, 100)), state(-149, -149, true), api.ErrNone)
	three := steps(1, span(100, 100), span(50, 50), span(20, 20))
	expectFewest(t, three, state(-173, -173, false, false, false), 6)
	expectFewest(t, three, state(-167, -167, false, false, false), 6)
	expectFewestError(t, three, state(-174, -174, false, false, false), api.ErrNone)
	expectFewestError(t, three, state(-166, -166, false, false, false), api.ErrNone)
	expectFewest(t, three, state(-74, -74, true, false, false), 6)
	expectFewestError(t, three, state(-75, -75, true, false, false), api.ErrNone)
}

// How far a rate is known decides, too: what cannot be told apart must be made good together.
func TestErrorsOfWhatIsSeen(t *testing.T) {
	for wrong := range 51 {
		for _, limit := range numbers(0, 1, 2, 5, 20) {
			r := rules(limit, wrong, span(1, 1), 10)
			for wide := range 12 {
				s := state(limit+1, limit+1+wide)
				switch {
				case wide <= min(2*limit, 9):
					expectFewest(t, r, s, 1)
				case wide > 2*limit && wide <= 2*wrong:
					// All of it can remain, however often it is looked at.
					expectFewestError(t, r, s, api.ErrNone)
				}
			}
		}
	}
}

// Whoever would come beyond the greatest rates goes another way, or none.
func TestFewestNearTheGreatestRates(t *testing.T) {
	r := rules(0, 0, span(100, 100), 1, span(50, 50))
	expectFewest(t, r, state(250, 250, false), 4)
	expectFewestError(t, r, state(250, 250, true), api.ErrNone)
	expectFewest(t, r, state(300, 300, false), 3)
	expectFewest(t, r, state(-300, -300, false), 3)
	// The weights are needed, and a turn back: it comes first unless it leads too far.
	r = rules(1, 0, span(30, 30), 1, span(100, 100), span(100, 100), span(100, 100))
	expectVisits(t, r, state(-270, -270, false, false, false), 4, turns(-1))
	expectVisits(t, r, state(-271, -271, false, false, false), 4, weight(0))
	expectVisits(t, r, state(-271, -270, false, false, false), 4, weight(0))
	expectNone(t, r, state(-272, -270, false, false, false))
	// The first weight does best, as what it did can be seen before the others: the image comes to 300, and then to 301.
	r = rules(7, 1, span(77, 77), 5, span(44, 51), span(11, 11), span(93, 100))
	expectVisits(t, r, state(244, 249, false, false, false), 3, weight(0))
	expectVisits(t, r, state(245, 250, false, false, false), 4, turns(-5))
	expectVisits(t, r, state(245-77, 250-77, false, false, false), 3, weight(0))
	// Spans from one end to the other have no room.
	r = rules(10, 0, span(1, 1), 10, span(1, 1))
	expectFewestError(t, r, state(-300, 300, false), api.ErrNone)
	r = rules(100, 0, span(50, 50), 4)
	expectFewest(t, r, state(-300, 300), 2)
	expectFewest(t, r, state(300, 300), 1)
	r = rules(240, 0, span(50, 60), 1)
	expectFewest(t, r, state(-300, 300), 3)
	expectFewest(t, r, state(-290, 290), 2)
	expectFewest(t, r, state(-250, 190), 2)
	expectFewest(t, r, state(-250, 180), 1)
}

func TestFewestAgainstAllThatCanBeSeen(t *testing.T) {
	counts := map[int]int{}
	compare := func(cases iter.Seq2[api.RateRules, api.RateState]) {
		for r, s := range cases {
			n, ok := newJudge(r).fewest(s)
			if !ok {
				n = -1
				expectFewestError(t, r, s, api.ErrNone)
			} else {
				expectFewest(t, r, s, n)
			}
			counts[n]++
		}
	}
	compare(someCases(3, 400, small(), 40))
	compare(someCases(4, 100, size{40, 6, 30, 5, 2}, 120))
	compare(steadyCases(5, 600, 30, 8))
	compare(steadyCases(6, 200, 60, 30))
	compare(steadyCases(7, 60, 300-30, 30))
	for n := -1; n <= 6; n++ {
		if counts[n] < 20 {
			t.Errorf("only %d of the test's cases need %d visits", counts[n], n)
		}
	}
}

// wideCases yields rules and states of which nearly nothing is known: acts soon lead beyond the greatest rates.
func wideCases(seed uint64, many int) iter.Seq2[api.RateRules, api.RateState] {
	return func(yield func(api.RateRules, api.RateState) bool) {
		x := seeded(seed)
		for range many {
			r := rules(100+x.IntN(190), x.IntN(3), randomSpan(x, 2, 60), 1+x.IntN(2), randomSpan(x, 1, 100))
			if !yield(r, state(x.IntN(50)-300, 300-x.IntN(50), x.IntN(4) == 0)) {
				return
			}
		}
	}
}

func TestFewestAndActOfWideStates(t *testing.T) {
	counts := map[int]int{}
	for r, s := range wideCases(31, 600) {
		j := newJudge(r)
		n, ok := j.fewest(s)
		if !ok {
			expectNone(t, r, s)
			continue
		}
		expectFewest(t, r, s, n)
		if n > 0 {
			expectAct(t, r, s, j.acts(s, n)[0])
		}
		counts[n]++
	}
	for n := range 7 {
		if counts[n] < 10 && n != 1 {
			t.Errorf("only %d of the test's cases need %d visits", counts[n], n)
		}
	}
}

// All states of small rules, one by one.
func TestFewestOfAllStates(t *testing.T) {
	for _, r := range []api.RateRules{example(), rules(3, 1, span(2, 3), 2, span(5, 5)), rules(2, 0, span(3, 4), 1, span(2, 2), span(6, 7)), rules(4, 2, span(5, 5), 1)} {
		j := newJudge(r)
		for low := -20; low <= 20; low++ {
			for high := low; high <= 20; high++ {
				for _, used := range allUsed(len(r.Weights)) {
					s := state(low, high, used...)
					if n, ok := j.fewest(s); ok {
						expectFewest(t, r, s, n)
					} else {
						expectFewestError(t, r, s, api.ErrNone)
					}
				}
			}
		}
	}
}

func TestFewestOfHardestRules(t *testing.T) {
	for r, s := range hardest() {
		expectFewest(t, r, s, 6)
	}
}
