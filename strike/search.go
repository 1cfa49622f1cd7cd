package strike

import (
	"cmp"
	"iter"

	"turret/api"
)

// cost is what plans are compared by: the blows by hand, then how often the strike is held.
type cost struct{ hand, holds int }

// less reports whether a cost is the smaller one.
func (c cost) less(d cost) bool {
	return cmp.Or(cmp.Compare(c.hand, d.hand), cmp.Compare(c.holds, d.holds)) < 0
}

// search keeps the best plans with which a strike comes to its right place.
type search struct {
	train
	until int
	costs map[point]cost           // those of the best plan from a point on, if there is a plan
	best  map[point]api.StrikeStep // the first step of this plan
}

// newSearch finds the best plans from all points from a slot on, so that the strike is at the right place of another one.
func newSearch(t train, slot, until int) search {
	goal := point{until, t.right(until)}
	s := search{t, until, map[point]cost{goal: {}}, map[point]api.StrikeStep{}}
	for later := range until - slot {
		for place := range s.places() {
			s.find(point{until - 1 - later, place})
		}
	}
	return s
}

// find finds the best plan from a point on, when those of the slot after it are known.
func (s search) find(p point) {
	for step := range s.steps(p.slot) {
		after, hand := s.do(p, step)
		c, found := s.costs[after]
		if !found {
			continue
		}
		c.hand += hand
		if step.Hold {
			c.holds++
		}
		// The greatest step comes first, so an equal cost does not replace it.
		if before, found := s.costs[p]; !found || c.less(before) {
			s.costs[p], s.best[p] = c, step
		}
	}
}

// steps yields the steps that can be done at a slot, from the greatest one to the least one, without those that let the strike go round by hand: they only add blows.
func (t train) steps(slot int) iter.Seq[api.StrikeStep] {
	most := t.places() - 1
	if t.silent(slot) {
		most = 0
	}
	return func(yield func(api.StrikeStep) bool) {
		for off := most; off >= 0; off-- {
			for _, hold := range bothWays {
				if !yield(api.StrikeStep{Off: off, Hold: hold}) {
					return
				}
			}
		}
	}
}

// plan returns the best plan from a point on; there is one.
func (s search) plan(p point) []api.StrikeStep {
	var plan []api.StrikeStep
	for p.slot < s.until {
		step := s.best[p]
		plan = append(plan, step)
		p, _ = s.do(p, step)
	}
	return plan
}
