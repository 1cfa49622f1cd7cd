package strike_test

import (
	"math/rand/v2"
	"slices"
	"testing"

	"turret/api"
)

// P5.5

func TestPlay(t *testing.T) {
	expectPlay(t, night(), 6, 5, plan(off(1)), 7, 1)
	expectPlay(t, night(), 6, 5, append(plan(off(1)), nothing(21)...), 4, 1)
	expectPlay(t, night(), 6, 5, holding(23), 5, 0)
	expectPlay(t, night(), 7, 9, holding(2), 9, 0)
	// The blows of slots are not those by hand.
	expectPlay(t, hourly(), 5, 5, nothing(1), 6, 0)
	expectPlay(t, hourly(), 5, 5, nothing(7), 0, 0)
	expectPlay(t, hourly(), 5, 9, nothing(7), 4, 0)
	expectPlay(t, hourly(), 5, 5, holding(1), 5, 0)
	// By hand first, then the slot comes.
	expectPlay(t, hourly(), 5, 5, plan(off(1)), 7, 5)
	expectPlay(t, hourly(), 5, 5, plan(off(3)), 9, 5+6+7)
	expectPlay(t, hourly(), 5, 5, plan(offHeld(3)), 8, 5+6+7)
	expectPlay(t, hourly(), 5, 5, plan(held(), off(1)), 7, 5)
	expectPlay(t, hourly(), 5, 5, plan(off(0), off(1)), 8, 6)
	expectPlay(t, hourly(), 5, 10, plan(off(3)), 2, 10+11+12)
	expectPlay(t, halved(), 5, 22, plan(off(3), off(1), held(), off(2)), 7, 11+1+12+1+2+1)
	// Round the wheel.
	expectPlay(t, hourly(), 3, 3, plan(off(12)), 4, 78)
	expectPlay(t, halved(), 3, 3, plan(off(24)), 4, 90)
}

func TestPlayWithoutAStep(t *testing.T) {
	for _, r := range kinds(span(3, 5)) {
		for _, slot := range numbers(0, 4, 5, 30, api.MaxStrikeSlot) {
			for _, place := range allPlaces(r) {
				if !r.Rack || place == rightOf(r, slot) {
					expectPlay(t, r, slot, place, nil, place, 0)
				}
			}
		}
	}
}

func TestPlayAsMuchAsIsAllowed(t *testing.T) {
	expectPlay(t, hourly(), 3, 3, plan(off(48)), 4, 4*78)
	expectPlay(t, halved(), 3, 3, plan(offHeld(48)), 3, 2*90)
	expectPlay(t, hourly(), 3, 3, nothing(96), 3, 0)
	expectPlay(t, hourly(), 3, 3, holding(96), 3, 0)
	expectPlay(t, halved(), 3, 4, slices.Repeat(plan(off(48)), 96), 4, 96*180)
	expectPlay(t, halved(), 3, 4, slices.Repeat(plan(offHeld(48)), 96), 4, 96*180)
	// The last slot is not the last one of a plan.
	expectPlay(t, hourly(), api.MaxStrikeSlot, 8, nothing(96), 8, 0)
	expectPlay(t, hourly(), api.MaxStrikeSlot, 8, plan(off(1), off(1)), 0, 8+10)
	expectPlay(t, halved(), api.MaxStrikeSlot, 0, append(nothing(95), off(1)), 1, 1)
	expectPlayError(t, hourly(span(10, 10)), api.MaxStrikeSlot, 8, plan(off(1), off(1), off(1)), api.ErrState)
}

func TestPlayInSilence(t *testing.T) {
	r := hourly(span(4, 5), span(23, 23))
	// The wheel goes on, without a blow.
	expectPlay(t, r, 3, 3, nothing(4), 7, 0)
	expectPlay(t, r, 3, 2, plan(off(1), off(0), held(), off(1)), 7, 2+5)
	for _, day := range numbers(0, 24, 24*1000) {
		for slot, silent := range map[int]bool{3: false, 4: true, 5: true, 6: false, 22: false, 23: true, 24: false, 11: false} {
			slot += day
			for _, s := range plan(off(1), offHeld(1), off(48)) {
				if silent {
					expectPlayError(t, r, slot, 0, plan(s), api.ErrState)
					expectPlayError(t, r, slot-1, 0, plan(off(0), s), api.ErrState)
				} else {
					p := playedOf(r, slot, 0, plan(s))
					expectPlay(t, r, slot, 0, plan(s), p.end, p.hand)
				}
			}
			expectPlay(t, r, slot, 7, plan(held()), 7, 0)
			expectPlay(t, r, slot, 7, plan(off(0)), 8, 0)
		}
	}
}

func TestErrorsOfPlay(t *testing.T) {
	steps := [][]api.StrikeStep{nil, nothing(1), plan(off(-1)), plan(off(49)), nothing(97), slices.Repeat(plan(off(-1)), 97), plan(off(1))}
	for _, r := range kinds(span(3, 5)) {
		n := placesOf(r)
		for _, l := range steps {
			for _, slot := range append(wild(), api.MaxStrikeSlot+1, api.MaxStrikeSlot+2) {
				for _, place := range append(wild(), 0, 4, n) {
					expectPlayError(t, r, slot, place, l, api.ErrRange)
				}
			}
			for _, slot := range numbers(0, 3, 4, 7, api.MaxStrikeSlot) {
				for _, place := range append(wild(), n, n+1, 2*n) {
					expectPlayError(t, r, slot, place, l, api.ErrArg)
				}
			}
		}
		for _, slot := range numbers(0, 3, 4, 7, api.MaxStrikeSlot) {
			right := rightOf(r, slot)
			for _, l := range [][]api.StrikeStep{nothing(97), holding(97), slices.Repeat(plan(off(-1)), 97), slices.Repeat(plan(off(1)), 1000)} {
				expectPlayError(t, r, slot, right, l, api.ErrLong)
			}
		}
	}
}

// Of the steps, the first one with an error decides.
func TestErrorsOfSteps(t *testing.T) {
	for _, r := range kinds(span(3, 5)) {
		for _, n := range append(wild(), 49, 50, 96) {
			for _, bad := range plan(off(n), offHeld(n)) {
				expectPlayError(t, r, 0, 0, plan(bad), api.ErrArg)
				expectPlayError(t, r, 4, 4, plan(bad), api.ErrArg)
				expectPlayError(t, r, 5, 5, plan(off(0), bad), api.ErrArg)
				expectPlayError(t, r, 0, 0, append(nothing(95), bad), api.ErrArg)
				expectPlayError(t, r, 1, 1, plan(off(1), bad, off(1)), api.ErrArg)
				expectPlayError(t, r, 2, 2, plan(bad, off(1)), api.ErrArg)
				expectPlayError(t, r, 2, 2, plan(off(1), off(1), bad), api.ErrState)
				expectPlayError(t, r, 5, 5, plan(off(1), bad), api.ErrState)
			}
		}
		expectPlayError(t, r, 3, 3, plan(off(1)), api.ErrState)
		expectPlayError(t, r, 5, 5, plan(offHeld(48)), api.ErrState)
		expectPlayError(t, r, 0, 0, plan(off(1), held(), off(2), off(1)), api.ErrState)
		expectPlayError(t, r, 0, 0, append(nothing(5), off(1)), api.ErrState)
	}
}

// randomPlan returns a plan that can be played.
func randomPlan(x *rand.Rand, r api.StrikeRules, slot, steps, most int) []api.StrikeStep {
	var l []api.StrikeStep
	for i := range steps {
		all := stepsAt(r, slot+i, most)
		l = append(l, all[x.IntN(len(all))])
	}
	return l
}

func TestPlayStepByStep(t *testing.T) {
	x := seeded(7)
	for range 500 {
		r := randomRules(x)
		slot, place := x.IntN(api.MaxStrikeSlot), x.IntN(placesOf(r))
		if x.IntN(3) == 0 {
			r, place = racked(r), rightOf(r, slot)
		}
		l := randomPlan(x, r, slot, x.IntN(97), x.IntN(49))
		p := playedOf(r, slot, place, l)
		expectPlay(t, r, slot, place, l, p.end, p.hand)
	}
}
