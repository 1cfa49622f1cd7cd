package rate

import "turret/api"

// proof is a list of claims that is read by a shop.
type proof struct {
	shop
	reaches map[level]*reach // how far the claims of a level reach
	found   map[level]*reach // the images of a level, if they were looked at already
}

// newProof returns a list of valid claims as a proof.
func newProof(s shop, claims []api.RateClaim) proof {
	reaches := map[level]*reach{}
	for _, c := range claims {
		l := level{c.Visits, newKnown(c.State).used}
		if reaches[l] == nil {
			reaches[l] = newReach()
		}
		reaches[l].extend(c.State.Rate.Low, c.State.Rate.High)
	}
	for _, r := range reaches {
		r.spread()
	}
	return proof{s, reaches, map[level]*reach{}}
}

// images returns the images of which, whatever is seen, there is a claim about what remains, with fewer visits than those of a level and with all of its weights.
func (p proof) images(l level) *reach {
	if images := p.found[l]; images != nil {
		return images
	}
	claimed := newReach()
	for other, r := range p.reaches {
		if other.visits < l.visits && other.used.include(l.used) {
			claimed.join(r)
		}
	}
	p.found[l] = claimed.images(p.Error)
	return p.found[l]
}

// follows reports whether a claim follows from the list.
func (p proof) follows(c api.RateClaim) bool {
	k := newKnown(c.State)
	if c.Visits == 0 {
		return c.Act == turned(0) && p.isGood(k.Span)
	}
	if !p.allowed(k, c.Act) {
		return false
	}
	k = p.after(k, c.Act)
	return p.images(level{c.Visits, k.used}).has(k.Span)
}

// writer writes a proof, claim by claim.
type writer struct {
	plan
	claims []api.RateClaim
	about  map[known]bool
}

// prove returns a proof whose first claim is about a state from which some visits are enough.
func (p plan) prove(k known) []api.RateClaim {
	w := writer{plan: p, about: map[known]bool{}}
	w.claim(k)
	for i := 0; i < len(w.claims); i++ {
		w.support(w.claims[i])
	}
	return w.claims
}

// claim adds the claim about a state, if it is not in the list already.
func (w *writer) claim(k known) {
	if w.about[k] {
		return
	}
	w.about[k] = true
	visits, _ := w.fewest(k)
	w.claims = append(w.claims, api.RateClaim{State: w.state(k), Visits: visits, Act: w.first(k, visits)})
}

// support adds the claims from which a claim follows. Each reaches as far from its Low as it can, so no level has more of them than there are rates: with six levels of visits and eight of weights they stay below MaxRateClaims.
func (w *writer) support(c api.RateClaim) {
	if c.Visits == 0 {
		return
	}
	k := w.after(newKnown(c.State), c.Act)
	rates := w.table(level{c.Visits - 1, k.used}).rates
	for low, high := k.Low, nowhere; high < k.High; {
		high = rates.from(low)
		w.claim(known{api.Span{Low: low, High: high}, k.used})
		// The next claim begins where first something can remain that is not within this one.
		low = high - 2*w.Error + 1
	}
}
