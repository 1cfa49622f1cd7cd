package rate_test

import (
	"math/rand/v2"
	"slices"
	"testing"

	"turret/api"
	"turret/rate"
)

// P7.6

// three are the claims of the chapter's example 4.
func three() []api.RateClaim {
	return claims(claim(state(8, 10, false), 1, turns(-1)), good(-2, 0, false), good(0, 2, false))
}

func TestProves(t *testing.T) {
	expectProves(t, example(), three(), 0)
	expectProves(t, example(), append(three(), good(-1, 1, false)), -1)
	expectProves(t, example(), nil, -1)
	expectProves(t, example(), claims(), -1)
	// In any order, and with claims that are not needed, or twice.
	expectProves(t, example(), claims(good(-1, 1, false), good(0, 2, false), good(-2, 0, false), claim(state(8, 10, false), 1, turns(-1))), -1)
	expectProves(t, example(), append(three(), good(-1, 1, false), good(5, 5, false), good(-5, 5, true)), -1)
	four := append(three(), good(-1, 1, false))
	expectProves(t, example(), append(four, four...), -1)
	expectProves(t, example(), claims(good(-1, 1, false), good(0, 2, false), claim(state(8, 10, false), 1, turns(-1))), 2)
	// The first one that does not follow is returned.
	expectProves(t, example(), append(three(), good(-1, 6, false)), 3)
	expectProves(t, example(), append(three(), good(6, 6, false)), 0)
	expectProves(t, example(), append(four, good(-1, 6, false), good(6, 6, false)), 4)
}

// A proof without one of its claims is none, if the claim is needed.
func TestProofsThatLackAClaim(t *testing.T) {
	four := append(three(), good(-1, 1, false))
	for n := range four {
		l := slices.Delete(copiedClaims(four), n, n+1)
		if n == 0 {
			expectProves(t, example(), l, -1)
		} else {
			expectProves(t, example(), l, 0)
		}
	}
	// What is seen at the edge leaves less: such a state is within others.
	edge := claims(claim(state(8, 10, false), 1, turns(-1)), good(-2, 0, false), good(-1, 1, false), good(0, 1, false), good(2, 2, false))
	expectProves(t, example(), edge, 0)
	edge[4] = good(1, 2, false)
	expectProves(t, example(), edge, 0)
	edge[4] = good(0, 2, false)
	expectProves(t, example(), edge, -1)
	edge[1] = good(-2, -1, false)
	expectProves(t, example(), edge, 0)
}

func TestClaimsWithMoreRates(t *testing.T) {
	first := claim(state(8, 10, false), 1, turns(-1))
	for low := -5; low <= 5; low++ {
		for high := low; high <= 5; high++ {
			want := 0
			if low <= -2 && high >= 2 {
				want = -1
			}
			expectProves(t, example(), claims(first, good(low, high, false)), want)
		}
	}
	// Two claims that have all rates together, and neither all of one state.
	expectProves(t, example(), claims(first, good(-5, 0, false), good(1, 5, false)), 0)
	expectProves(t, example(), claims(first, good(-5, 0, false), good(0, 5, false)), 0)
	expectProves(t, example(), claims(first, good(-5, 1, false), good(0, 5, false)), -1)
	expectProves(t, example(), claims(first, good(-5, 0, false), good(-1, 5, false)), -1)
	// One that begins earlier, and reaches less far, does not hide another one.
	expectProves(t, example(), claims(first, good(-5, 1, false), good(-1, 0, false), good(0, 2, false)), -1)
	expectProves(t, example(), claims(first, good(-1, 0, false), good(-2, 5, false), good(-5, -3, false)), -1)
}

func TestClaimsWithMoreWeights(t *testing.T) {
	r := rules(5, 1, span(8, 10), 3, span(4, 6), span(2, 3), span(20, 21))
	for _, used := range allUsed(3) {
		for _, more := range allUsed(3) {
			want := -1
			for n := range 3 {
				if used[n] && !more[n] {
					want = 0
				}
			}
			expectProves(t, r, claims(claim(state(8, 10, used...), 1, turns(-1)), good(-2, 2, more...)), want)
			// After a weight this one is used, too.
			if used[0] {
				expectProves(t, r, claims(claim(state(-6, -4, used...), 1, weight(0)), good(-2, 2, more...), good(-2, 2, true, true, true)), 0)
				continue
			}
			if !more[0] {
				want = 0
			}
			expectProves(t, r, claims(claim(state(-6, -4, used...), 1, weight(0)), good(-2, 2, more...)), want)
		}
	}
	// Some states of a claim can be in one claim, some in another one.
	expectProves(t, r, claims(claim(state(8, 10, false, true, false), 1, turns(-1)), good(-2, 1, true, true, false), good(0, 2, false, true, true)), -1)
	expectProves(t, r, claims(claim(state(8, 10, false, true, false), 1, turns(-1)), good(-2, 1, true, true, false), good(0, 2, true, false, true)), 0)
}

func TestClaimsWithFewerVisits(t *testing.T) {
	s := state(8, 10, false)
	for visits := 1; visits <= 6; visits++ {
		expectProves(t, example(), claims(claim(s, visits, turns(-1)), good(-2, 2, false)), -1)
		// It is of no use to wait, but as good with a visit more.
		for fewer := 1; fewer <= 6; fewer++ {
			l := claims(claim(s, visits, turns(0)), claim(s, fewer, turns(-1)), good(-2, 2, false))
			if fewer < visits {
				expectProves(t, example(), l, -1)
			} else {
				expectProves(t, example(), l, 0)
			}
		}
		// No claim follows from itself.
		expectProves(t, example(), claims(claim(s, visits, turns(0))), 0)
		expectProves(t, example(), claims(good(-5, 5, false), claim(s, visits, turns(0)), claim(s, visits, turns(0))), 1)
	}
	// The claims that are needed come later, or earlier.
	l := claims(claim(s, 3, turns(0)), good(-2, 2, false), claim(s, 1, turns(-1)), claim(s, 2, turns(0)))
	expectProves(t, example(), l, -1)
	slices.Reverse(l)
	expectProves(t, example(), l, -1)
	// More rates with more visits do not help.
	expectProves(t, example(), claims(claim(s, 1, turns(-1)), claim(state(-5, 5, false), 1, turns(0)), good(-5, 5, false)), -1)
	expectProves(t, example(), claims(claim(s, 1, turns(-1)), claim(state(-5, 5, false), 1, turns(0)), good(-1, 5, false)), 0)
	// A claim of visits that are not needed follows, too.
	expectProves(t, example(), claims(claim(state(-5, 5, false), 1, turns(0)), good(-5, -3, false), good(-4, 4, false), good(3, 5, false)), -1)
}

func TestClaimsWithoutVisits(t *testing.T) {
	for _, used := range [][]bool{{false}, {true}} {
		expectProves(t, example(), claims(good(-5, 5, used...)), -1)
		expectProves(t, example(), claims(good(5, 5, used...), good(-5, -5, used...), good(0, 0, used...)), -1)
		for _, s := range spans(span(6, 6), span(-6, -6), span(-6, 5), span(-5, 6), span(5, 6), span(-300, 300)) {
			expectProves(t, example(), claims(good(s.Low, s.High, used...)), 0)
			// However many other claims have it.
			expectProves(t, example(), claims(good(-5, 5, used...), good(s.Low, s.High, used...), good(-5, 5, used...)), 1)
		}
		for _, a := range someActs() {
			if a != turns(0) {
				expectProves(t, example(), claims(good(-5, 5, used...), claim(state(-1, 1, used...), 0, a)), 1)
			}
		}
		expectProves(t, example(), claims(claim(state(-1, 1, used...), 0, api.RateAct{})), 0)
		expectProves(t, example(), claims(claim(state(-1, 1, used...), 0, turns(-1))), 0)
		expectProves(t, example(), claims(claim(state(-1, 1, used...), 0, weight(-2))), 0)
	}
	all := rules(300, 0, span(1, 1), 0)
	expectProves(t, all, claims(good(-300, 300)), -1)
	all.Limit = 299
	expectProves(t, all, claims(good(-300, 300)), 0)
	expectProves(t, all, claims(good(-299, 299)), -1)
}

// A claim whose act is not allowed does not follow, whatever the others say.
func TestClaimsWithActsThatAreNotAllowed(t *testing.T) {
	r := rules(300, 1, span(8, 10), 3, span(4, 6))
	all := claims(good(-300, 300, true), good(-300, 300, false))
	for _, used := range [][]bool{{false}, {true}} {
		for _, s := range states(state(8, 10, used...), state(291, 291, used...), state(-291, -280, used...), state(-300, 300, used...), state(295, 300, used...), state(294, 294, used...)) {
			for _, a := range append(someActs(), turns(-1), turns(2), turns(3), turns(4), turns(-4), weight(1)) {
				for visits := 1; visits <= 6; visits++ {
					want := 2
					if allowedIn(r, s, a) {
						want = -1
					}
					expectProves(t, r, append(slices.Clone(all), claim(s, visits, a)), want)
				}
			}
		}
	}
}

func TestErrorsOfProves(t *testing.T) {
	bad := claims(claim(state(0, 0, false), -1, turns(0)), claim(state(0, 0, false), 7, turns(0)))
	for _, n := range wild() {
		bad = append(bad, claim(state(0, 0, false), n, turns(0)), claim(state(8, 10, false), n, turns(-1)))
	}
	for _, s := range badStates(1) {
		bad = append(bad, claim(s, 0, turns(0)), claim(s, 3, turns(99)), claim(s, -1, turns(0)))
	}
	for _, c := range bad {
		expectProvesError(t, example(), claims(c), api.ErrArg)
		expectProvesError(t, example(), append(three(), c), api.ErrArg)
		// The claim before it does not follow, and is no error.
		expectProvesError(t, example(), claims(good(6, 6, false), c, good(7, 7, false)), api.ErrArg)
		expectProvesError(t, example(), append(claims(c), three()...), api.ErrArg)
	}
	for visits := range 7 {
		expectProves(t, example(), claims(claim(state(100, 100, false), visits, turns(0))), 0)
	}
	r := rules(5, 1, span(8, 10), 3)
	expectProvesError(t, r, claims(good(0, 0, false)), api.ErrArg)
	expectProvesError(t, r, claims(good(0, 0), good(0, 0, true)), api.ErrArg)
	expectProves(t, r, claims(good(0, 0)), -1)
}

// As many claims as are allowed, and one more.
func TestManyClaims(t *testing.T) {
	l := slices.Repeat(append(three(), good(-1, 1, false)), 7500)
	expectProves(t, example(), l, -1)
	l[29999] = good(-1, 6, false)
	expectProves(t, example(), l, 29999)
	expectProvesError(t, example(), append(l, good(0, 0, false)), api.ErrLong)
	l[29999].Visits = 7
	expectProvesError(t, example(), l, api.ErrArg)
	expectProvesError(t, example(), append(l, good(0, 0, false)), api.ErrLong)
	expectProvesError(t, example(), make([]api.RateClaim, 30001), api.ErrLong)
	expectProvesError(t, example(), make([]api.RateClaim, 30000), api.ErrArg)
	expectProvesError(t, example(), make([]api.RateClaim, 100000), api.ErrLong)
}

// Many claims about many rates, all of which follow from the first one.
func TestManyWideClaims(t *testing.T) {
	r := rules(300, 50, span(1, 10), 10, span(1, 100), span(1, 100), span(1, 100))
	x := seeded(16)
	l := claims(good(-300, 300, true, true, true))
	for len(l) < 30000 {
		s := randomState(x, r, 600)
		acts := allowedActs(r, s)
		l = append(l, claim(s, 1+x.IntN(6), acts[x.IntN(len(acts))]))
	}
	expectProves(t, r, l, -1)
	l[12345] = claim(state(-300, 300, false, true, true), 3, weight(0))
	expectProves(t, r, l, 12345)
	l[0] = good(-300, 299, true, true, true)
	expectProves(t, r, l, firstFailing(r, l))
	l[0] = claim(state(-300, 300, true, true, true), 6, turns(0))
	expectProves(t, r, l, firstFailing(r, l))
}

// changed returns claims of which some were changed a little, left out, or added.
func changed(x *rand.Rand, r api.RateRules, l []api.RateClaim) []api.RateClaim {
	l = copiedClaims(l)
	for range 1 + x.IntN(3) {
		i := x.IntN(len(l))
		c := &l[i]
		switch x.IntN(8) {
		case 0:
			c.State.Rate.Low = min(c.State.Rate.High, max(-300, c.State.Rate.Low+x.IntN(5)-2))
		case 1:
			c.State.Rate.High = max(c.State.Rate.Low, min(300, c.State.Rate.High+x.IntN(5)-2))
		case 2:
			c.Visits = min(6, max(0, c.Visits+x.IntN(3)-1))
		case 3:
			acts := actsOf(r)
			c.Act = acts[x.IntN(len(acts))]
		case 4:
			if len(r.Weights) > 0 {
				n := x.IntN(len(r.Weights))
				c.State.Used[n] = !c.State.Used[n]
			}
		case 5:
			if len(l) > 1 {
				l = slices.Delete(l, i, i+1)
			}
		case 6:
			l = append(l, claim(copied(c.State), min(6, c.Visits+1), turns(0)))
		}
	}
	return l
}

// somewhatProved yields proofs with changes, and lists of claims about random states.
func somewhatProved(seed uint64, many int, yield func(r api.RateRules, l []api.RateClaim)) {
	x := seeded(seed)
	for r, s := range steadyCases(seed, many, 30, 8) {
		l, e := rate.Proof(r, s)
		if e != api.OK || len(l) > 60 {
			l = claims(claim(s, x.IntN(7), turns(0)))
		}
		yield(r, l)
		for range 6 {
			yield(r, changed(x, r, l))
		}
	}
}

func TestProvesAgainstAllThatCanBeSeen(t *testing.T) {
	proved, failed := 0, 0
	somewhatProved(17, 400, func(r api.RateRules, l []api.RateClaim) {
		want := firstFailing(r, l)
		expectProves(t, r, l, want)
		if want == -1 {
			proved++
		} else if want > 0 {
			failed++
		}
		if isProof(r, l) != (want == -1) {
			t.Fatalf("the test's ways to read %v, %v differ", r, l)
		}
	})
	if proved < 200 || failed < 200 {
		t.Errorf("only %d lists of the test are proofs, and %d fail after the first claim", proved, failed)
	}
}

// Lists that are made of all claims about few rates.
func TestProvesOfRandomLists(t *testing.T) {
	x := seeded(18)
	for range 3000 {
		r := rules(1+x.IntN(2), x.IntN(3), randomSpan(x, 1, 2), 1+x.IntN(2), randomSpan(x, 1, 3))
		var l []api.RateClaim
		for range 1 + x.IntN(12) {
			low := x.IntN(9) - 4
			s := state(low, low+x.IntN(5), x.IntN(2) == 0)
			c := claim(s, x.IntN(4), turns(0))
			if acts := actsOf(r); c.Visits > 0 {
				c.Act = acts[x.IntN(len(acts))]
			} else {
				c.State.Rate.Low, c.State.Rate.High = max(-r.Limit, low), max(r.Limit, -r.Limit, low)
			}
			l = append(l, c)
		}
		expectProves(t, r, l, firstFailing(r, l))
	}
}
