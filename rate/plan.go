package rate

import "turret/api"

// level is a number of visits, and the weights that are on the bob before them.
type level struct {
	visits int
	used   weights
}

// table is of a level: from which rates the visits are enough, and from which images they are enough whatever is seen.
type table struct{ rates, images *reach }

// plan is a shop that finds out how many visits are enough. It keeps the tables that it has looked at.
type plan struct {
	shop
	tables map[level]table
}

// newPlan returns a plan, and what is known in a state, or the errors of the rules and of the state.
func newPlan(r api.RateRules, st api.RateState) (plan, known, api.Errno) {
	if e := Check(r); e != api.OK {
		return plan{}, known{}, e
	}
	s := shop{r}
	if !s.validState(st) {
		return plan{}, known{}, api.ErrArg
	}
	return plan{s, map[level]table{}}, newKnown(st), api.OK
}

// table returns the table of a level.
func (p plan) table(l level) table {
	t, found := p.tables[l]
	if !found {
		rates := p.rates(l)
		t = table{rates, rates.images(p.Error)}
		p.tables[l] = t
	}
	return t
}

// rates returns the rates from which the visits of a level are enough.
func (p plan) rates(l level) *reach {
	r := newReach()
	if l.visits == 0 {
		for low := -p.Limit; low <= p.Limit; low++ {
			r.extend(low, p.Limit)
		}
		return r
	}
	r.join(p.table(level{l.visits - 1, l.used}).rates)
	for a := range p.acts {
		if l.used.free(a) {
			next := level{l.visits - 1, l.used.after(a)}
			r.add(p.table(next).images, p.gain(a))
		}
	}
	return r
}

// fewest returns how many visits are enough, if no more are than are allowed.
func (p plan) fewest(k known) (visits int, found bool) {
	for n := range api.MaxRateVisits + 1 {
		if p.table(level{n, k.used}).rates.has(k.Span) {
			return n, true
		}
	}
	return 0, false
}

// enough reports whether an act is allowed, and so many visits are enough after it.
func (p plan) enough(k known, a api.RateAct, visits int) bool {
	if !k.used.free(a) {
		return false
	}
	k = p.after(k, a)
	return p.table(level{visits, k.used}).images.has(k.Span)
}

// first returns the first act after which one visit less is enough; if there are no visits, nothing is done.
func (p plan) first(k known, visits int) api.RateAct {
	for a := range p.acts {
		if visits > 0 && p.enough(k, a, visits-1) {
			return a
		}
	}
	return turned(0)
}
