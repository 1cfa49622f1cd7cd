package rate_test

import (
	"testing"

	"turret/api"
	"turret/rate"
)

// P7.4

func TestAct(t *testing.T) {
	expectAct(t, example(), state(8, 10, false), turns(-1))
	expectAct(t, example(), state(-9, -8, false), turns(1))
	expectAct(t, example(), state(8, 18, false), turns(-2))
	expectAct(t, example(), state(-6, -4, false), weight(0))
	// It is one of several that are as good: the turns come before the weights.
	expectAfter(t, example(), state(-9, -8, false), turns(1), 0, state(-1, 1, false))
	expectAct(t, example(), state(-9, -8, true), turns(1))
	expectActError(t, example(), state(0, 5, false), api.ErrState)
	expectActError(t, example(), state(8, 18, true), api.ErrNone)
}

// Of acts that are equally good the first one is meant.
func TestTies(t *testing.T) {
	for most := 1; most <= 10; most++ {
		// All turns back that are not more than 11 make the rate good, as do all turns forward.
		r := rules(5, 0, span(1, 1), most)
		expectAct(t, r, state(6, 6), turns(-most))
		expectAct(t, r, state(-6, -6), turns(1))
		expectAct(t, r, state(5, 6), turns(-most))
		expectAct(t, r, state(-6, 3), turns(1))
		expectAct(t, r, state(-7, -7), turns(min(2, most)))
	}
	r := rules(5, 0, span(1, 1), 10, span(8, 8))
	expectAct(t, r, state(-8, -8, false), turns(3))
	// Ten turns do not do it, either weight does.
	two := rules(5, 0, span(1, 1), 10, span(15, 15), span(18, 18), span(15, 15))
	expectAct(t, two, state(-16, -16, false, false, false), weight(0))
	expectAct(t, two, state(-16, -16, true, false, false), weight(1))
	expectAct(t, two, state(-16, -16, true, true, false), weight(2))
	expectAct(t, two, state(-16, -16, false, true, true), weight(0))
	expectAct(t, two, state(-21, -21, false, false, false), weight(1))
	// With more visits than one, the first act may make the rate worse.
	far := rules(0, 0, span(1, 1), 5)
	expectAct(t, far, state(6, 6), turns(-5))
	expectAct(t, far, state(1, 1), turns(-1))
	expectAct(t, far, state(10, 10), turns(-5))
	expectAct(t, far, state(-6, -6), turns(1))
	expectAct(t, far, state(-9, -9), turns(4))
	expectAct(t, far, state(-10, -10), turns(5))
	idle := rules(0, 0, span(1, 1), 5, span(1, 1))
	expectAct(t, idle, state(-5, -5, false), turns(5))
	expectAct(t, idle, state(-11, -11, false), turns(1))
}

// Nothing is done but observed where this is the first act that is good enough, and weights only where no turns are.
func TestKindsOfActs(t *testing.T) {
	// A turn from here goes too far, unless it is known to which side the rate is wrong.
	look := rules(15, 0, span(20, 30), 1)
	expectVisits(t, look, state(-17, 17), 2, turns(0))
	expectVisits(t, look, state(-17, -16), 1, turns(1))
	expectVisits(t, look, state(16, 17), 1, turns(-1))
	look.Error = 50
	expectNone(t, look, state(-17, 17))
	only := rules(10, 0, span(1, 1), 0, span(3, 3), span(9, 9))
	expectVisits(t, only, state(-19, -19, false, false), 1, weight(1))
	expectVisits(t, only, state(-13, -13, false, false), 1, weight(0))
	expectVisits(t, only, state(-22, -22, false, false), 2, weight(0))
	expectVisits(t, only, state(-22, -13, false, false), 2, weight(0))
	expectNone(t, only, state(-23, -23, false, false))
	expectNone(t, only, state(-22, -22, true, false))
	expectNone(t, only, state(11, 11, false, false))
}

func TestErrorsOfAct(t *testing.T) {
	for n := -300; n <= 300; n += 7 {
		for _, used := range [][]bool{{false}, {true}} {
			s := state(n, n, used...)
			r := rules(5, 1, span(2, 2), 3, span(4, 6))
			visits, e := rate.Fewest(r, s)
			switch {
			case e != api.OK:
				expectActError(t, r, s, api.ErrNone)
			case visits == 0:
				expectActError(t, r, s, api.ErrState)
			default:
				if a, e := rate.Act(r, s); e != api.OK || !allowedIn(r, s, a) {
					t.Errorf("Act(%v, %v) = %v, %v", r, s, a, e)
				}
			}
		}
	}
}

func TestActAgainstAllThatCanBeSeen(t *testing.T) {
	kinds := map[string]int{}
	compare := func(r api.RateRules, s api.RateState) {
		j := newJudge(r)
		visits, ok := j.fewest(s)
		switch {
		case !ok:
			expectActError(t, r, s, api.ErrNone)
			return
		case visits == 0:
			expectActError(t, r, s, api.ErrState)
			return
		}
		a := j.acts(s, visits)[0]
		expectAct(t, r, s, a)
		kinds[kindOf(a)]++
	}
	for r, s := range someCases(8, 400, small(), 40) {
		compare(r, s)
	}
	for r, s := range steadyCases(9, 1500, 30, 8) {
		compare(r, s)
	}
	for r, s := range steadyCases(10, 300, 30, 30) {
		compare(r, s)
	}
	for _, kind := range []string{"back", "observed", "forward", "weight"} {
		if kinds[kind] < 20 {
			t.Errorf("only %d acts of the test are of the kind %q", kinds[kind], kind)
		}
	}
}

func kindOf(a api.RateAct) string {
	switch {
	case a.Weight >= 0:
		return "weight"
	case a.Turns < 0:
		return "back"
	case a.Turns > 0:
		return "forward"
	}
	return "observed"
}

// All states of small rules, one by one.
func TestActOfAllStates(t *testing.T) {
	for _, r := range []api.RateRules{example(), rules(3, 1, span(2, 3), 2, span(5, 5)), rules(2, 0, span(3, 4), 1, span(2, 2), span(6, 7))} {
		j := newJudge(r)
		for low := -20; low <= 20; low++ {
			for high := low; high <= min(20, low+12); high++ {
				for _, used := range allUsed(len(r.Weights)) {
					s := state(low, high, used...)
					if visits, ok := j.fewest(s); ok && visits > 0 {
						expectAct(t, r, s, j.acts(s, visits)[0])
					}
				}
			}
		}
	}
}
