package rate

import (
	"slices"

	"turret/api"
)

// noWeight is the weight of an act that puts none on.
const noWeight = -1

// turned returns the act of so many turns of the nut.
func turned(turns int) api.RateAct { return api.RateAct{Turns: turns, Weight: noWeight} }

// weights is, for each weight, whether it is on the bob.
type weights [api.MaxRateWeights]bool

// free reports whether an act puts on no weight that is on the bob already.
func (w weights) free(a api.RateAct) bool { return a.Weight == noWeight || !w[a.Weight] }

// after returns the weights that are on the bob after an act.
func (w weights) after(a api.RateAct) weights {
	if a.Weight != noWeight {
		w[a.Weight] = true
	}
	return w
}

// include reports whether all others are on the bob, too.
func (w weights) include(others weights) bool {
	for i, used := range others {
		if used && !w[i] {
			return false
		}
	}
	return true
}

// known is a state that can be compared: between which rates a clock is, and which weights are on its bob.
type known struct {
	api.Span
	used weights
}

// newKnown returns what is known in a valid state.
func newKnown(s api.RateState) known {
	k := known{Span: s.Rate}
	copy(k.used[:], s.Used)
	return k
}

// near returns what remains possible if a rate is seen with an error.
func (k known) near(seen, wrong int) known {
	k.Low, k.High = max(k.Low, seen-wrong), min(k.High, seen+wrong)
	return k
}

// shop is rules that are valid.
type shop struct{ api.RateRules }

// state returns what is known as a new state.
func (s shop) state(k known) api.RateState {
	return api.RateState{Rate: k.Span, Used: slices.Clone(k.used[:len(s.Weights)])}
}

// acts yields all acts, in order.
func (s shop) acts(yield func(api.RateAct) bool) {
	for turns := -s.Turns; turns <= s.Turns; turns++ {
		if !yield(turned(turns)) {
			return
		}
	}
	for weight := range s.Weights {
		if !yield(api.RateAct{Weight: weight}) {
			return
		}
	}
}

// has reports whether an act is one of all.
func (s shop) has(act api.RateAct) bool {
	for a := range s.acts {
		if a == act {
			return true
		}
	}
	return false
}

// gain returns by how much one of all acts makes the rate greater.
func (s shop) gain(a api.RateAct) api.Span {
	if a.Weight != noWeight {
		return s.Weights[a.Weight]
	}
	one, other := a.Turns*s.Turn.Low, a.Turns*s.Turn.High
	return api.Span{Low: min(one, other), High: max(one, other)}
}

// after returns what is known after an act that is free, before anything is seen.
func (s shop) after(k known, a api.RateAct) known {
	gain := s.gain(a)
	k.Low += gain.Low
	k.High += gain.High
	k.used = k.used.after(a)
	return k
}

// allowed reports whether an act is allowed.
func (s shop) allowed(k known, a api.RateAct) bool {
	return s.has(a) && k.used.free(a) && validRate(s.after(k, a).Span)
}

// isGood reports whether all rates of a span are good.
func (s shop) isGood(rate api.Span) bool { return within(-s.Limit, s.Limit, rate.Low, rate.High) }
