package rate_test

import (
	"iter"
	"math"
	"math/rand/v2"
	"slices"
	"testing"

	"turret/api"
	"turret/rate"
)

func span(low, high int) api.Span { return api.Span{Low: low, High: high} }

func spans(s ...api.Span) []api.Span { return s }

func numbers(n ...int) []int { return n }

// wild are numbers that nothing allows.
func wild() []int {
	return numbers(-1000, math.MinInt, math.MinInt+1, math.MinInt/2, math.MaxInt/2, math.MaxInt-1, math.MaxInt)
}

func seeded(n uint64) *rand.Rand { return rand.New(rand.NewPCG(n, 7)) }

// rules returns rules with any weights.
func rules(limit, wrong int, turn api.Span, turns int, weights ...api.Span) api.RateRules {
	return api.RateRules{Limit: limit, Error: wrong, Turn: turn, Turns: turns, Weights: weights}
}

// example are the rules of the chapter's examples.
func example() api.RateRules { return rules(5, 1, span(8, 10), 3, span(4, 6)) }

// steps are rules by which the clock does just what is expected, in steps of 1, and nothing but 0 is good.
func steps(turns int, weights ...api.Span) api.RateRules {
	return rules(0, 0, span(1, 1), turns, weights...)
}

func state(low, high int, used ...bool) api.RateState {
	return api.RateState{Rate: span(low, high), Used: used}
}

func states(s ...api.RateState) []api.RateState { return s }

// unused returns a state with no weight on the bob.
func unused(r api.RateRules, low, high int) api.RateState {
	return state(low, high, make([]bool, len(r.Weights))...)
}

func turns(n int) api.RateAct { return api.RateAct{Turns: n, Weight: -1} }

func weight(n int) api.RateAct { return api.RateAct{Weight: n} }

func claim(s api.RateState, visits int, a api.RateAct) api.RateClaim {
	return api.RateClaim{State: s, Visits: visits, Act: a}
}

// good returns the claim that no visits are needed.
func good(low, high int, used ...bool) api.RateClaim {
	return claim(state(low, high, used...), 0, turns(0))
}

func claims(c ...api.RateClaim) []api.RateClaim { return c }

func sameState(a, b api.RateState) bool { return a.Rate == b.Rate && slices.Equal(a.Used, b.Used) }

// copied returns a state that shares no memory with this one.
func copied(s api.RateState) api.RateState {
	return api.RateState{Rate: s.Rate, Used: slices.Clone(s.Used)}
}

// copiedClaims returns claims that share no memory with these ones.
func copiedClaims(l []api.RateClaim) []api.RateClaim {
	var list []api.RateClaim
	for _, c := range l {
		c.State = copied(c.State)
		list = append(list, c)
	}
	return list
}

func copiedRules(r api.RateRules) api.RateRules {
	r.Weights = slices.Clone(r.Weights)
	return r
}

// actsOf are all acts of rules, in the order of the document.
func actsOf(r api.RateRules) []api.RateAct {
	var list []api.RateAct
	for n := -r.Turns; n <= r.Turns; n++ {
		list = append(list, turns(n))
	}
	for n := range r.Weights {
		list = append(list, weight(n))
	}
	return list
}

// imageOf returns the span of all rates that are possible after an act that the rules know.
func imageOf(r api.RateRules, s api.RateState, a api.RateAct) api.Span {
	switch {
	case a.Weight >= 0:
		w := r.Weights[a.Weight]
		return span(s.Rate.Low+w.Low, s.Rate.High+w.High)
	case a.Turns >= 0:
		return span(s.Rate.Low+a.Turns*r.Turn.Low, s.Rate.High+a.Turns*r.Turn.High)
	}
	return span(s.Rate.Low+a.Turns*r.Turn.High, s.Rate.High+a.Turns*r.Turn.Low)
}

// allowedIn reports whether an act is allowed.
func allowedIn(r api.RateRules, s api.RateState, a api.RateAct) bool {
	if !slices.Contains(actsOf(r), a) || a.Weight >= 0 && s.Used[a.Weight] {
		return false
	}
	image := imageOf(r, s, a)
	return image.Low >= -300 && image.High <= 300
}

// allowedActs are all acts that are allowed, in the order of the document.
func allowedActs(r api.RateRules, s api.RateState) []api.RateAct {
	not := func(a api.RateAct) bool { return !allowedIn(r, s, a) }
	return slices.DeleteFunc(actsOf(r), not)
}

// usedAfter returns the weights that are used after an act.
func usedAfter(s api.RateState, a api.RateAct) []bool {
	used := slices.Clone(s.Used)
	if a.Weight >= 0 {
		used[a.Weight] = true
	}
	return used
}

// afterOf returns the state after an allowed act, if a number is seen; false if it can't be.
func afterOf(r api.RateRules, s api.RateState, a api.RateAct, seen int) (api.RateState, bool) {
	image := imageOf(r, s, a)
	var near []int
	for n := image.Low; n <= image.High; n++ {
		if seen <= n+r.Error && seen >= n-r.Error {
			near = append(near, n)
		}
	}
	if len(near) == 0 {
		return api.RateState{}, false
	}
	return state(near[0], near[len(near)-1], usedAfter(s, a)...), true
}

// seenAfter yields all states that can come next after an allowed act, by what is seen.
func seenAfter(r api.RateRules, s api.RateState, a api.RateAct) iter.Seq2[int, api.RateState] {
	image, used := imageOf(r, s, a), usedAfter(s, a)
	return func(yield func(int, api.RateState) bool) {
		for seen := image.Low - r.Error; seen <= image.High+r.Error; seen++ {
			next := state(max(image.Low, seen-r.Error), min(image.High, seen+r.Error), used...)
			if !yield(seen, next) {
				return
			}
		}
	}
}

// place is a state and a number of visits.
type place struct {
	visits int
	rate   api.Span
	used   [3]bool
}

func placeOf(s api.RateState, visits int) place {
	p := place{visits: visits, rate: s.Rate}
	copy(p.used[:], s.Used)
	return p
}

// judge finds out what is enough just as the document says it: all acts, and all that can be seen, one by one.
type judge struct {
	rules api.RateRules
	known map[place]bool
}

func newJudge(r api.RateRules) judge { return judge{r, map[place]bool{}} }

func (j judge) isGood(s api.RateState) bool {
	return s.Rate.Low >= -j.rules.Limit && s.Rate.High <= j.rules.Limit
}

// enough reports whether so many visits are enough from a state.
func (j judge) enough(s api.RateState, visits int) bool {
	if visits <= 0 || j.isGood(s) {
		return j.isGood(s)
	}
	p := placeOf(s, visits)
	if is, ok := j.known[p]; ok {
		return is
	}
	is := j.enough(s, visits-1) || len(j.acts(s, visits)) > 0
	j.known[p] = is
	return is
}

// acts returns the first allowed act after which one visit less is enough; none if there is none.
func (j judge) acts(s api.RateState, visits int) []api.RateAct {
	for _, a := range allowedActs(j.rules, s) {
		if j.leads(s, a, visits-1) {
			return []api.RateAct{a}
		}
	}
	return nil
}

// leads reports whether so many visits are enough from each state that can come next.
func (j judge) leads(s api.RateState, a api.RateAct, visits int) bool {
	for _, next := range seenAfter(j.rules, s, a) {
		if !j.enough(next, visits) {
			return false
		}
	}
	return true
}

// fewest returns how many visits are enough, or false if more than six are needed.
func (j judge) fewest(s api.RateState) (int, bool) {
	for visits := range 7 {
		if j.enough(s, visits) {
			return visits, true
		}
	}
	return 0, false
}

// followsFrom reports whether a claim follows from a list: all that can be seen is looked for, one by one.
func followsFrom(r api.RateRules, l []api.RateClaim, c api.RateClaim) bool {
	if c.Visits == 0 {
		return c.Act == turns(0) && c.State.Rate.Low >= -r.Limit && c.State.Rate.High <= r.Limit
	}
	if !allowedIn(r, c.State, c.Act) {
		return false
	}
	for _, next := range seenAfter(r, c.State, c.Act) {
		if !slices.ContainsFunc(l, func(other api.RateClaim) bool { return other.Visits < c.Visits && covers(other.State, next) }) {
			return false
		}
	}
	return true
}

// covers reports whether a state has all rates and all used weights of another one.
func covers(s, other api.RateState) bool {
	for n, used := range other.Used {
		if used && !s.Used[n] {
			return false
		}
	}
	return s.Rate.Low <= other.Rate.Low && s.Rate.High >= other.Rate.High
}

// firstFailing returns the number of the first claim that does not follow, or -1.
func firstFailing(r api.RateRules, l []api.RateClaim) int {
	return slices.IndexFunc(l, func(c api.RateClaim) bool { return !followsFrom(r, l, c) })
}

// isProof is firstFailing for long lists: what can be seen is looked for only among claims that reach furthest.
func isProof(r api.RateRules, l []api.RateClaim) bool {
	furthest := map[place]int{} // the greatest High of the claims with these weights, so few visits and this Low or a lesser one
	for _, c := range l {
		for low := c.State.Rate.Low; low <= c.State.Rate.High; low++ {
			for visits := c.Visits; visits <= 6; visits++ {
				p := placeOf(state(low, 0, c.State.Used...), visits)
				if high, ok := furthest[p]; !ok || high < c.State.Rate.High {
					furthest[p] = c.State.Rate.High
				}
			}
		}
	}
	isCovered := func(next api.RateState, visits int) bool {
		for _, used := range allUsed(len(r.Weights)) {
			if high, ok := furthest[placeOf(state(next.Rate.Low, 0, used...), visits)]; ok && high >= next.Rate.High && covers(state(next.Rate.Low, next.Rate.High, used...), next) {
				return true
			}
		}
		return false
	}
	for _, c := range l {
		if c.Visits == 0 {
			if !followsFrom(r, nil, c) {
				return false
			}
			continue
		}
		if !allowedIn(r, c.State, c.Act) {
			return false
		}
		for _, next := range seenAfter(r, c.State, c.Act) {
			if !isCovered(next, c.Visits-1) {
				return false
			}
		}
	}
	return true
}

// allUsed are all ways in which so many weights can be used.
func allUsed(weights int) [][]bool {
	list := [][]bool{nil}
	for range weights {
		var longer [][]bool
		for _, used := range list {
			longer = append(longer, append(slices.Clone(used), false), append(slices.Clone(used), true))
		}
		list = longer
	}
	return list
}

// size is how large random rules are.
type size struct{ limit, wrong, turn, turns, weights int }

// small rules can be looked at one by one.
func small() size { return size{8, 3, 14, 3, 3} }

func randomSpan(x *rand.Rand, low, high int) api.Span {
	a, b := low+x.IntN(high-low+1), low+x.IntN(high-low+1)
	if x.IntN(2) == 0 {
		b = a + x.IntN(3)
	}
	return span(min(a, b), min(high, max(a, b)))
}

func randomRules(x *rand.Rand, z size) api.RateRules {
	r := rules(x.IntN(z.limit+1), x.IntN(z.wrong+1), randomSpan(x, 1, z.turn), x.IntN(z.turns+1))
	for range x.IntN(z.weights + 1) {
		r.Weights = append(r.Weights, randomSpan(x, 1, z.turn))
	}
	return r
}

func randomUsed(x *rand.Rand, r api.RateRules) []bool {
	var used []bool
	for range r.Weights {
		used = append(used, x.IntN(3) == 0)
	}
	return used
}

// randomState returns a state that is not wider than this, and often not far from 0, or near the greatest rates.
func randomState(x *rand.Rand, r api.RateRules, wide int) api.RateState {
	low := x.IntN(601) - 300
	switch x.IntN(8) {
	case 0:
		low = 300 - x.IntN(30)
	case 1:
		low = x.IntN(30) - 300
	case 2, 3, 4, 5, 6:
		low = x.IntN(121) - 60
	}
	return state(low, min(300, low+x.IntN(1+x.IntN(wide+1))), randomUsed(x, r)...)
}

// someCases yields random rules and states.
func someCases(seed uint64, many int, z size, wide int) iter.Seq2[api.RateRules, api.RateState] {
	return func(yield func(api.RateRules, api.RateState) bool) {
		x := seeded(seed)
		for range many {
			r := randomRules(x, z)
			if !yield(r, randomState(x, r, wide)) {
				return
			}
		}
	}
}

func expectAfter(t *testing.T, r api.RateRules, s api.RateState, a api.RateAct, seen int, want api.RateState) {
	t.Helper()
	if next, e := rate.After(r, s, a, seen); !sameState(next, want) || e != api.OK {
		t.Errorf("After(%v, %v, %v, %d) = %v, %v; want %v", r, s, a, seen, next, e, want)
	}
}

func expectAfterError(t *testing.T, r api.RateRules, s api.RateState, a api.RateAct, seen int, want api.Errno) {
	t.Helper()
	if next, e := rate.After(r, s, a, seen); !sameState(next, api.RateState{}) || e != want {
		t.Errorf("After(%v, %v, %v, %d) = %v, %v; want the error %v", r, s, a, seen, next, e, want)
	}
}

func expectFewest(t *testing.T, r api.RateRules, s api.RateState, want int) {
	t.Helper()
	if n, e := rate.Fewest(r, s); n != want || e != api.OK {
		t.Errorf("Fewest(%v, %v) = %d, %v; want %d", r, s, n, e, want)
	}
}

func expectFewestError(t *testing.T, r api.RateRules, s api.RateState, want api.Errno) {
	t.Helper()
	if n, e := rate.Fewest(r, s); n != 0 || e != want {
		t.Errorf("Fewest(%v, %v) = %d, %v; want the error %v", r, s, n, e, want)
	}
}

func expectAct(t *testing.T, r api.RateRules, s api.RateState, want api.RateAct) {
	t.Helper()
	if a, e := rate.Act(r, s); a != want || e != api.OK {
		t.Errorf("Act(%v, %v) = %v, %v; want %v", r, s, a, e, want)
	}
}

func expectActError(t *testing.T, r api.RateRules, s api.RateState, want api.Errno) {
	t.Helper()
	if a, e := rate.Act(r, s); a != (api.RateAct{}) || e != want {
		t.Errorf("Act(%v, %v) = %v, %v; want the error %v", r, s, a, e, want)
	}
}

// expectProof fails unless Proof returns a proof about a state, with so many visits; it returns the proof.
func expectProof(t *testing.T, r api.RateRules, s api.RateState, visits int) []api.RateClaim {
	t.Helper()
	l, e := rate.Proof(r, s)
	switch {
	case e != api.OK:
		t.Errorf("Proof(%v, %v): the error %v", r, s, e)
	case len(l) == 0 || !sameState(l[0].State, s) || l[0].Visits != visits:
		t.Errorf("Proof(%v, %v) does not begin with a claim about the state, with %d visits", r, s, visits)
	case len(l) > 30000:
		t.Errorf("Proof(%v, %v): %d claims", r, s, len(l))
	case !slices.ContainsFunc(l, func(c api.RateClaim) bool { return !isClaim(r, c) }) && isProof(r, l):
		return l
	default:
		t.Errorf("Proof(%v, %v) returns %d claims that are no proof", r, s, len(l))
	}
	return nil
}

// isClaim reports whether the state of a claim, and its visits, are as they can be.
func isClaim(r api.RateRules, c api.RateClaim) bool {
	s := c.State
	return -300 <= s.Rate.Low && s.Rate.Low <= s.Rate.High && s.Rate.High <= 300 && len(s.Used) == len(r.Weights) && 0 <= c.Visits && c.Visits <= 6
}

func expectProofError(t *testing.T, r api.RateRules, s api.RateState, want api.Errno) {
	t.Helper()
	if l, e := rate.Proof(r, s); len(l) > 0 || e != want {
		t.Errorf("Proof(%v, %v): %d claims, %v; want the error %v", r, s, len(l), e, want)
	}
}

// expectProves fails unless Proves returns a number; -1 is that of a proof.
func expectProves(t *testing.T, r api.RateRules, l []api.RateClaim, want int) {
	t.Helper()
	if at, e := rate.Proves(r, l); at != want || e != api.OK {
		t.Errorf("Proves(%v, %v) = %d, %v; want %d", r, l[:min(len(l), 20)], at, e, want)
	}
}

func expectProvesError(t *testing.T, r api.RateRules, l []api.RateClaim, want api.Errno) {
	t.Helper()
	if at, e := rate.Proves(r, l); at != 0 || e != want {
		t.Errorf("Proves(%v, %v) = %d, %v; want the error %v", r, l[:min(len(l), 20)], at, e, want)
	}
}

// expectNone fails unless six visits are not enough, and all functions say so.
func expectNone(t *testing.T, r api.RateRules, s api.RateState) {
	t.Helper()
	expectFewestError(t, r, s, api.ErrNone)
	expectActError(t, r, s, api.ErrNone)
	expectProofError(t, r, s, api.ErrNone)
}

// expectGood fails unless no visits are needed, and all functions say so.
func expectGood(t *testing.T, r api.RateRules, s api.RateState) {
	t.Helper()
	expectFewest(t, r, s, 0)
	expectActError(t, r, s, api.ErrState)
	expectProof(t, r, s, 0)
}

// expectVisits fails unless so many visits are the fewest, this is the first act, and there is a proof.
func expectVisits(t *testing.T, r api.RateRules, s api.RateState, visits int, a api.RateAct) {
	t.Helper()
	expectFewest(t, r, s, visits)
	expectAct(t, r, s, a)
	expectProof(t, r, s, visits)
}
