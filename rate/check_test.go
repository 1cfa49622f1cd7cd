package rate_test

import (
	"math"
	"slices"
	"testing"

	"turret/api"
	"turret/rate"
)

// goodRules are valid, and have least and greatest values.
func goodRules() []api.RateRules {
	list := []api.RateRules{
		example(), steps(0), steps(10), rules(0, 0, span(1, 1), 0), rules(300, 50, span(100, 100), 10, slices.Repeat(spans(span(100, 100)), 3)...),
		rules(0, 50, span(1, 100), 10, span(1, 100)), rules(300, 0, span(1, 100), 0, span(1, 1), span(100, 100)), rules(1, 1, span(1, 2), 1, []api.Span{}...),
	}
	for _, limit := range numbers(0, 1, 299, 300) {
		for _, wrong := range numbers(0, 1, 49, 50) {
			list = append(list, rules(limit, wrong, span(8, 10), 3, span(4, 6)), rules(limit, wrong, span(8, 10), 3))
		}
	}
	for _, gain := range spans(span(1, 1), span(1, 100), span(100, 100), span(99, 100), span(50, 50)) {
		for _, n := range numbers(0, 1, 9, 10) {
			list = append(list, rules(5, 1, gain, n), rules(5, 1, span(8, 10), n, gain), rules(5, 1, gain, n, span(1, 2), span(3, 4), gain))
		}
	}
	return list
}

// badGains are nothing that a turn or a weight can do.
func badGains() []api.Span {
	list := spans(span(0, 5), span(0, 0), span(5, 101), span(101, 101), span(6, 5), span(100, 1), span(-5, -1), span(-1, 5), span(math.MaxInt, math.MinInt), span(math.MinInt, math.MaxInt))
	for _, n := range wild() {
		list = append(list, span(n, n), span(min(n, 5), max(n, 5)))
	}
	return list
}

// badRules have no more weights than are allowed, but are not valid.
func badRules() []api.RateRules {
	var list []api.RateRules
	for _, n := range append(wild(), -1, 301, 302) {
		list = append(list, rules(n, 1, span(8, 10), 3, span(4, 6)))
	}
	for _, n := range append(wild(), -1, 51, 52) {
		list = append(list, rules(5, n, span(8, 10), 3, span(4, 6)))
	}
	for _, n := range append(wild(), -1, 11, 12) {
		list = append(list, rules(5, 1, span(8, 10), n, span(4, 6)), rules(5, 1, span(8, 10), n))
	}
	ok := span(4, 6)
	for _, gain := range badGains() {
		list = append(list, rules(5, 1, gain, 3, ok), rules(5, 1, gain, 0), rules(5, 1, span(8, 10), 3, gain), rules(300, 1, span(8, 10), 0, gain, ok, ok),
			rules(5, 1, span(8, 10), 3, ok, gain, ok), rules(5, 1, span(8, 10), 3, ok, ok, gain), rules(301, 51, gain, 11, gain))
	}
	return append(list, api.RateRules{})
}

// longRules have too many weights, and nothing else or more that is wrong.
func longRules() []api.RateRules {
	var list []api.RateRules
	for _, weights := range [][]api.Span{slices.Repeat(spans(span(4, 6)), 4), slices.Repeat(spans(span(4, 6)), 1000), make([]api.Span, 4), {span(6, 5), span(0, 0), span(1, 101), span(4, 6)}} {
		list = append(list, rules(5, 1, span(8, 10), 3, weights...), rules(301, 51, span(0, 0), 11, weights...), rules(-1, -1, span(6, 5), -1, weights...))
	}
	return list
}

// badStates are no states of clocks with so many weights.
func badStates(weights int) []api.RateState {
	var list []api.RateState
	used := make([]bool, weights)
	for _, s := range spans(span(1, 0), span(300, -300), span(-301, -301), span(-301, 0), span(0, 301), span(301, 301), span(-301, 301), span(math.MaxInt, math.MinInt), span(math.MinInt, math.MaxInt)) {
		list = append(list, state(s.Low, s.High, used...), state(s.Low, s.High, append(used, true)...))
	}
	for _, n := range wild() {
		list = append(list, state(n, n, used...), state(min(n, 5), max(n, 5), used...))
	}
	for n := range weights {
		list = append(list, state(0, 0, used[:n]...), state(8, 18, slices.Repeat([]bool{true}, n)...))
	}
	for n := range 4 {
		list = append(list, state(0, 0, make([]bool, weights+n+1)...), state(8, 18, make([]bool, weights+n+1)...))
	}
	return append(list, state(-300, 300, make([]bool, 1000)...))
}

// someActs are allowed often, or never.
func someActs() []api.RateAct {
	list := []api.RateAct{turns(0), turns(1), turns(-3), turns(10), turns(11), weight(0), weight(2), weight(3), weight(-2), {Turns: 1, Weight: 0}}
	for _, n := range wild() {
		list = append(list, turns(n), weight(n), api.RateAct{Turns: n, Weight: n})
	}
	return list
}

// P7.1

func TestCheckAcceptsRules(t *testing.T) {
	for _, r := range goodRules() {
		if e := rate.Check(r); e != api.OK {
			t.Errorf("Check(%v) = %v", r, e)
		}
		s := unused(r, 0, 0)
		expectAfter(t, r, s, turns(0), 0, s)
		expectFewest(t, r, s, 0)
		expectActError(t, r, s, api.ErrState)
		expectProof(t, r, s, 0)
		expectProves(t, r, nil, -1)
	}
}

func expectRulesError(t *testing.T, r api.RateRules, want api.Errno) {
	t.Helper()
	if e := rate.Check(r); e != want {
		t.Errorf("Check(%v) = %v; want %v", r, e, want)
	}
	list := append(badStates(1), unused(r, 0, 0), unused(r, 8, 18), unused(r, 300, 300), unused(r, 1, 0), api.RateState{})
	for _, s := range list {
		for _, a := range someActs() {
			expectAfterError(t, r, s, a, 0, want)
		}
		expectFewestError(t, r, s, want)
		expectActError(t, r, s, want)
		expectProofError(t, r, s, want)
		expectProvesError(t, r, claims(claim(s, 0, turns(0))), want)
		expectProvesError(t, r, claims(claim(s, 7, turns(11))), want)
	}
	expectProvesError(t, r, nil, want)
	expectProvesError(t, r, make([]api.RateClaim, 30001), want)
}

// The errors of rules come first, whatever else is wrong.
func TestCheckRejectsRules(t *testing.T) {
	for _, r := range longRules() {
		expectRulesError(t, r, api.ErrLong)
	}
	for _, r := range badRules() {
		expectRulesError(t, r, api.ErrArg)
	}
}

func TestStatesAreAccepted(t *testing.T) {
	for _, r := range goodRules() {
		for _, used := range allUsed(len(r.Weights)) {
			for _, s := range spans(span(-300, -300), span(300, 300), span(-300, 300), span(-1, 0)) {
				s := state(s.Low, s.High, used...)
				expectAfter(t, r, s, turns(0), s.Rate.Low-r.Error, state(s.Rate.Low, s.Rate.Low, used...))
				if _, e := rate.Fewest(r, s); e != api.OK && e != api.ErrNone {
					t.Errorf("Fewest(%v, %v): the error %v", r, s, e)
				}
				expectProves(t, r, claims(claim(s, 6, turns(0))), 0)
			}
		}
	}
}

// The error of a state comes after those of rules, and before all others.
func TestStatesAreRejected(t *testing.T) {
	ok := span(4, 6)
	for _, r := range []api.RateRules{example(), rules(5, 1, span(8, 10), 3), rules(300, 50, span(1, 100), 10, ok, ok, ok), rules(0, 0, span(1, 1), 0, ok, ok)} {
		for _, s := range badStates(len(r.Weights)) {
			for _, a := range someActs() {
				for _, seen := range append(wild(), -1, 0, 5) {
					expectAfterError(t, r, s, a, seen, api.ErrArg)
				}
			}
			expectFewestError(t, r, s, api.ErrArg)
			expectActError(t, r, s, api.ErrArg)
			expectProofError(t, r, s, api.ErrArg)
		}
	}
}

// R3, R4

func TestNilAndEmpty(t *testing.T) {
	r := rules(5, 1, span(8, 10), 3)
	empty := r
	empty.Weights = []api.Span{}
	for _, r := range []api.RateRules{r, empty} {
		for _, s := range states(state(8, 10), api.RateState{Rate: span(8, 10), Used: []bool{}}) {
			expectAfter(t, r, s, turns(-1), -3, state(-2, -2))
			expectVisits(t, r, s, 1, turns(-1))
			expectProves(t, r, claims(claim(s, 1, turns(-1)), good(-5, 5)), -1)
		}
		expectProves(t, r, []api.RateClaim{}, -1)
		expectProves(t, r, nil, -1)
	}
}

func TestArgumentsAreNotChanged(t *testing.T) {
	for r, s := range someCases(1, 300, small(), 30) {
		before, first := copiedRules(r), copied(s)
		l, _ := rate.Proof(r, s)
		l = append(l, claim(copied(s), 3, turns(0)), claim(copied(s), 1, turns(1)))
		list := copiedClaims(l)
		rate.Check(r)
		rate.Fewest(r, s)
		rate.Act(r, s)
		rate.Proves(r, l)
		for _, a := range actsOf(r) {
			rate.After(r, s, a, s.Rate.Low)
			rate.After(r, s, a, imageOf(r, s, a).High)
		}
		same := func(a, b api.RateClaim) bool {
			return sameState(a.State, b.State) && a.Visits == b.Visits && a.Act == b.Act
		}
		if !slices.Equal(r.Weights, before.Weights) || !sameState(s, first) || !slices.EqualFunc(l, list, same) {
			t.Fatalf("%v, %v: the arguments became %v, %v", before, first, r, s)
		}
	}
}

// What is written into a result is not seen anywhere else.
func TestResultsAreNew(t *testing.T) {
	r := rules(5, 1, span(8, 10), 3, span(4, 6), span(1, 2), span(3, 9))
	s := state(8, 18, false, true, false)
	for _, a := range append(actsOf(r), turns(0)) {
		next, e := rate.After(r, s, a, imageOf(r, s, a).Low)
		if e != api.OK {
			continue
		}
		for n := range next.Used {
			next.Used[n] = !next.Used[n]
		}
		if !sameState(s, state(8, 18, false, true, false)) {
			t.Fatalf("After %v the state became %v", a, s)
		}
	}
	l := expectProof(t, r, s, 2)
	list := copiedClaims(l)
	for i := range l {
		for n := range l[i].State.Used {
			l[i].State.Used[n] = !l[i].State.Used[n]
			for k, c := range l {
				if k != i && !sameState(c.State, list[k].State) {
					t.Fatalf("the claims %d and %d share memory", i, k)
				}
			}
		}
		l[i] = list[i]
	}
	if !sameState(s, state(8, 18, false, true, false)) {
		t.Fatalf("After Proof the state became %v", s)
	}
}

// Nothing is kept of an argument, and nothing but the arguments decides.
func TestCallsAgain(t *testing.T) {
	r := rules(5, 1, span(8, 10), 3, span(4, 6))
	s := state(-6, -4, false)
	for range 3 {
		expectVisits(t, r, s, 1, weight(0))
		s.Used[0] = true
		expectNone(t, r, s)
		s.Used[0] = false
		r.Weights[0] = span(1, 1)
		expectVisits(t, r, s, 1, weight(0))
		r.Weights[0] = span(4, 12)
		expectNone(t, r, s)
		r.Weights[0] = span(4, 6)
	}
}
