package rate_test

import (
	"iter"
	"math/rand/v2"
	"slices"
	"testing"

	"turret/api"
	"turret/rate"
)

// P7.9

// expectTrue fails if a list is a proof, and yet one of its claims is not true.
func expectTrue(t *testing.T, r api.RateRules, l []api.RateClaim) (proved bool) {
	t.Helper()
	at, e := rate.Proves(r, l)
	if e != api.OK {
		t.Fatalf("Proves(%v, %v): the error %v", r, l, e)
	}
	if at != -1 {
		return false
	}
	for _, c := range l {
		if n := fewestOr7(t, r, c.State); n > c.Visits {
			t.Fatalf("%v: the proof says %v, but %d visits are needed", r, c, n)
		}
	}
	return true
}

func TestProofsSayWhatIsTrue(t *testing.T) {
	proofs := 0
	somewhatProved(25, 500, func(r api.RateRules, l []api.RateClaim) {
		if expectTrue(t, r, l) {
			proofs++
		}
	})
	if proofs < 200 {
		t.Errorf("only %d lists of the test are proofs", proofs)
	}
	for r, s := range hardest() {
		l, _ := rate.Proof(r, s)
		if !expectTrue(t, r, l) {
			t.Errorf("Proof(%v, %v) returns no proof", r, s)
		}
	}
}

// Of random claims those that do not follow are left out, until the others are a proof.
func TestProofsOfRandomClaims(t *testing.T) {
	x := seeded(26)
	visits := map[int]int{}
	for r := range steadyCases(27, 50, 0, 0) {
		l := randomClaims(x, r)
		for {
			at, e := rate.Proves(r, l)
			if e != api.OK {
				t.Fatalf("Proves(%v, %v): the error %v", r, l, e)
			}
			if at == -1 {
				break
			}
			l = slices.Delete(l, at, at+1)
		}
		expectTrue(t, r, l)
		for _, c := range l {
			visits[c.Visits]++
		}
	}
	for n := range 3 {
		if visits[n] < 20 {
			t.Errorf("only %d claims of the test's proofs have %d visits", visits[n], n)
		}
	}
}

// randomClaims are many claims about rates near good ones, with acts that are allowed.
func randomClaims(x *rand.Rand, r api.RateRules) []api.RateClaim {
	l := claims(good(-r.Limit, r.Limit, slices.Repeat([]bool{true}, len(r.Weights))...))
	for len(l) < 250 {
		low := x.IntN(41) - 20
		s := state(low, low+x.IntN(6), randomUsed(x, r)...)
		acts := allowedActs(r, s)
		l = append(l, claim(s, 1+x.IntN(4), acts[x.IntN(len(acts))]))
	}
	return l
}

// P7.10

// expectNoMore fails if from a state, by rules, more visits are needed than by worse rules from a state that is worse.
func expectNoMore(t *testing.T, r api.RateRules, s api.RateState, worse api.RateRules, than api.RateState) (fewer bool) {
	t.Helper()
	n, most := fewestOr7(t, r, s), fewestOr7(t, worse, than)
	if n > most {
		t.Fatalf("from %v by %v %d visits are needed, but from %v by %v %d", s, r, n, than, worse, most)
	}
	return n < most
}

// narrower returns a span within another one.
func narrower(x *rand.Rand, s api.Span) api.Span {
	low := s.Low + x.IntN(s.High-s.Low+1)
	return span(low, low+x.IntN(s.High-low+1))
}

// better returns rules and a state of which more is known, or which are easier: in one way, or in all of them.
func better(x *rand.Rand, r api.RateRules, s api.RateState, way int) (api.RateRules, api.RateState) {
	r, s = copiedRules(r), copied(s)
	if way == 0 || way == 7 {
		s.Rate = narrower(x, s.Rate)
	}
	if way == 1 || way == 7 {
		for n := range s.Used {
			s.Used[n] = s.Used[n] && x.IntN(2) == 0
		}
	}
	if way == 2 || way == 7 {
		r.Error = x.IntN(r.Error + 1)
	}
	if way == 3 || way == 7 {
		r.Turn = narrower(x, r.Turn)
	}
	if way == 4 || way == 7 {
		for n, w := range r.Weights {
			r.Weights[n] = narrower(x, w)
		}
	}
	if way == 5 || way == 7 {
		r.Limit = min(300, r.Limit+x.IntN(3))
	}
	if way == 6 && len(r.Weights) < 3 {
		r.Weights = append(r.Weights, randomSpan(x, 1, 14))
		s.Used = append(s.Used, false)
	}
	return r, s
}

func TestKnownBetter(t *testing.T) {
	x := seeded(28)
	fewer := map[int]int{}
	compare := func(cases iter.Seq2[api.RateRules, api.RateState]) {
		for r, s := range cases {
			for way := range 8 {
				easier, known := better(x, r, s, way)
				if expectNoMore(t, easier, known, r, s) {
					fewer[way]++
				}
			}
		}
	}
	compare(steadyCases(29, 700, 30, 12))
	compare(someCases(30, 200, size{20, 6, 20, 4, 3}, 40))
	compare(hardest())
	for way := range 8 {
		if fewer[way] < 5 {
			t.Errorf("only %d of the test's cases that are better in the way %d need fewer visits", fewer[way], way)
		}
	}
}

// With a rate that is known a little better, step by step, until it is known just.
func TestNarrowerAndNarrower(t *testing.T) {
	for r, s := range hardest() {
		for s.Rate.Low < s.Rate.High {
			than := copied(s)
			s.Rate.Low++
			s.Rate.High = max(s.Rate.Low, s.Rate.High-2)
			expectNoMore(t, r, s, r, than)
		}
	}
}
