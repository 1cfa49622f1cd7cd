package rate

import (
	"slices"

	"turret/api"
)

// within reports whether all numbers are from low to high.
func within(low, high int, numbers ...int) bool {
	outside := func(n int) bool { return n < low || n > high }
	return !slices.ContainsFunc(numbers, outside)
}

// validGain reports whether what a turn or a weight does is as it can be.
func validGain(s api.Span) bool {
	return s.Low <= s.High && within(1, api.MaxRateTurn, s.Low, s.High)
}

// validRate reports whether what is known of a rate is as it can be.
func validRate(s api.Span) bool {
	return s.Low <= s.High && within(-api.MaxRate, api.MaxRate, s.Low, s.High)
}

// validRules reports whether rules with no more weights than are allowed are valid.
func validRules(r api.RateRules) bool {
	wrong := func(weight api.Span) bool { return !validGain(weight) }
	return within(0, api.MaxRate, r.Limit) && within(0, api.MaxRateError, r.Error) &&
		validGain(r.Turn) && within(0, api.MaxRateTurns, r.Turns) && !slices.ContainsFunc(r.Weights, wrong)
}

// validState reports whether a state is one of a clock with these rules.
func (s shop) validState(st api.RateState) bool {
	return validRate(st.Rate) && len(st.Used) == len(s.Weights)
}

// wrong reports whether a claim is not one about a clock with these rules.
func (s shop) wrong(c api.RateClaim) bool {
	return !s.validState(c.State) || !within(0, api.MaxRateVisits, c.Visits)
}
