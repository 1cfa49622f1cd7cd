package pulse

import (
	"slices"

	"turret/api"
)

// within reports whether all numbers are from low to high.
func within(low, high int, numbers ...int) bool {
	outside := func(n int) bool { return n < low || n > high }
	return !slices.ContainsFunc(numbers, outside)
}

func validShown(shown int) bool { return within(0, api.PulseDial-1, shown) }

// validLine reports whether a line has a rule, and is corrected as the rule allows.
func validLine(l api.PulseLine) bool {
	switch l.Rule {
	case api.PulsePlain:
		return l.Every == 0 && l.Reach == 0
	case api.PulseZero, api.PulseWait, api.PulseCount:
		return within(2, api.PulseDial/2, l.Every) && api.PulseDial%l.Every == 0 && within(0, (l.Every-1)/2, l.Reach)
	}
	return false
}

// checkFaults returns the error of faults that come after a minute, until another one.
func (l line) checkFaults(faults []api.PulseFault, from, until int) api.Errno {
	if len(faults) > api.MaxPulseFaults {
		return api.ErrLong
	}
	for _, f := range faults {
		if !within(from+1, until, f.At) || !within(int(api.PulseLost), int(api.PulseDouble), int(f.Kind)) || l.long(f.At) {
			return api.ErrArg
		}
		from = f.At
	}
	return api.OK
}

// checkSeen returns the error of what was seen after a minute.
func checkSeen(seen []api.PulseSeen, from int) api.Errno {
	if len(seen) > api.MaxPulseSeen {
		return api.ErrLong
	}
	until := from + api.MaxPulseSpan
	for _, s := range seen {
		if !within(from+1, until, s.At) || !validShown(s.Shown) {
			return api.ErrArg
		}
		from = s.At
	}
	return api.OK
}
