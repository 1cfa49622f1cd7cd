package rate_test

import (
	"slices"
	"testing"

	"turret/api"
	"turret/rate"
)

// P7.5

func TestProof(t *testing.T) {
	expectProof(t, example(), state(0, 5, false), 0)
	expectProof(t, example(), state(8, 10, false), 1)
	expectProof(t, example(), state(-9, -8, false), 1)
	expectProof(t, example(), state(8, 18, false), 2)
	expectProof(t, example(), state(-6, -4, false), 1)
	expectProofError(t, example(), state(8, 18, true), api.ErrNone)
	expectProofError(t, example(), state(-6, -4, true), api.ErrNone)
}

// Without visits nothing is done: the act of such a claim is no turn and no weight.
func TestProofWithoutVisits(t *testing.T) {
	for _, r := range goodRules() {
		for _, used := range allUsed(len(r.Weights)) {
			for _, s := range spans(span(-r.Limit, r.Limit), span(r.Limit, r.Limit), span(-r.Limit, -r.Limit), span(0, r.Limit), span(0, 0)) {
				l := expectProof(t, r, state(s.Low, s.High, used...), 0)
				if len(l) > 0 && l[0].Act != turns(0) {
					t.Errorf("Proof(%v, %v) begins with %v", r, s, l[0])
				}
			}
		}
	}
}

// Six visits have a proof, seven have none.
func TestProofsOfManyVisits(t *testing.T) {
	for _, n := range numbers(1, 2, 7, 10) {
		for visits := range 7 {
			expectProof(t, steps(n), state(n*visits, n*visits), visits)
			expectProof(t, steps(n), state(-n*visits, -n*visits), visits)
		}
		expectProofError(t, steps(n), state(6*n+1, 6*n+1), api.ErrNone)
		expectProofError(t, steps(n), state(-6*n-1, -6*n-1), api.ErrNone)
	}
	// Near the greatest rates, with all of them possible.
	wide := rules(100, 0, span(50, 50), 4)
	expectProof(t, wide, state(-300, 300), 2)
	expectProof(t, rules(299, 50, span(1, 1), 1), state(-300, 300), 2)
	expectProof(t, rules(0, 0, span(1, 1), 10), state(-45, 55), 6)
}

func TestProofsOfAllThatIsEnough(t *testing.T) {
	longest := 0
	prove := func(r api.RateRules, s api.RateState) {
		if n, ok := newJudge(r).fewest(s); !ok {
			expectProofError(t, r, s, api.ErrNone)
		} else if l := expectProof(t, r, s, n); len(l) > longest {
			longest = len(l)
		}
	}
	for r, s := range someCases(11, 300, small(), 40) {
		prove(r, s)
	}
	for r, s := range steadyCases(12, 500, 30, 8) {
		prove(r, s)
	}
	for r, s := range steadyCases(13, 200, 60, 30) {
		prove(r, s)
	}
	if longest < 4 {
		t.Errorf("the longest proof of the test has %d claims", longest)
	}
}

// There are far more states that can come after each other than there may be claims.
func TestProofsOfHardestRules(t *testing.T) {
	for r, s := range hardest() {
		l := expectProof(t, r, s, 6)
		expectProves(t, r, l, -1)
	}
}

// The proofs of large rules, whatever their visits are.
func TestProofsOfLargeRules(t *testing.T) {
	x := seeded(14)
	for range 250 {
		r := randomRules(x, size{60, 50, 60, 10, 3})
		s := randomState(x, r, 300)
		if n, e := rate.Fewest(r, s); e != api.OK {
			expectProofError(t, r, s, e)
		} else {
			expectProof(t, r, s, n)
		}
	}
}

// With its first act the first claim says what Act says, or something as good.
func TestFirstActOfProof(t *testing.T) {
	for r, s := range steadyCases(15, 300, 30, 8) {
		l, e := rate.Proof(r, s)
		if e != api.OK || l[0].Visits == 0 {
			continue
		}
		if j := newJudge(r); !slices.Contains(allowedActs(r, s), l[0].Act) || !j.leads(s, l[0].Act, l[0].Visits-1) {
			t.Fatalf("Proof(%v, %v) begins with %v", r, s, l[0])
		}
	}
}
