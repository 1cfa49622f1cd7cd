package strike

import (
	"slices"

	"turret/api"
)

// within reports whether all numbers are from low to high.
func within(low, high int, numbers ...int) bool {
	outside := func(n int) bool { return n < low || n > high }
	return !slices.ContainsFunc(numbers, outside)
}

func validSlot(slot int) bool { return within(0, api.MaxStrikeSlot, slot) }

// validQuiet reports whether the silence of rules is made of valid spans, each after the one before.
func validQuiet(r api.StrikeRules) bool {
	first, last := 0, train{r}.slotsOfDay()-1
	for _, s := range r.Quiet {
		if s.Low > s.High || !within(first, last, s.Low, s.High) {
			return false
		}
		first = s.High + 1
	}
	return true
}

// checkHeard returns the error of what was heard.
func checkHeard(heard []api.StrikeHeard) api.Errno {
	switch {
	case len(heard) == 0:
		return api.ErrNone
	case len(heard) > api.MaxStrikeHeard:
		return api.ErrLong
	case !validHeard(heard):
		return api.ErrArg
	case lastSlot(heard)-heard[0].Slot >= api.MaxStrikeSpan:
		return api.ErrLong
	}
	return api.OK
}

func lastSlot(heard []api.StrikeHeard) int { return heard[len(heard)-1].Slot }

// validHeard reports whether slots and blows are as they can be, and the slots ascend.
func validHeard(heard []api.StrikeHeard) bool {
	first := 0
	for _, h := range heard {
		if !within(first, api.MaxStrikeSlot, h.Slot) || !within(0, api.MaxStrikeBlows, h.Blows) {
			return false
		}
		first = h.Slot + 1
	}
	return true
}

// checkPlan returns the error of a plan from a slot on.
func (t train) checkPlan(slot int, plan []api.StrikeStep) api.Errno {
	if len(plan) > api.MaxStrikePlan {
		return api.ErrLong
	}
	for later, step := range plan {
		switch {
		case !within(0, api.MaxStrikeOff, step.Off):
			return api.ErrArg
		case step.Off > 0 && t.silent(slot+later):
			return api.ErrState
		}
	}
	return api.OK
}
