package zone

import (
	"slices"

	"turret/api"
)

// allInstants returns the times of the office.
func allInstants() api.Span { return api.Span{Low: 0, High: api.MaxTime} }

// within reports whether all numbers are from low to high.
func within(low, high int, numbers ...int) bool {
	outside := func(n int) bool { return n < low || n > high }
	return !slices.ContainsFunc(numbers, outside)
}

func validOffset(offset int) bool { return within(-api.MaxZoneOffset, api.MaxZoneOffset, offset) }

// validSpan reports whether a span is valid from low to high.
func validSpan(s api.Span, low, high int) bool {
	return s.Low <= s.High && within(low, high, s.Low, s.High)
}

// valid reports whether all towns are valid.
func valid(towns ...api.ZoneTown) bool {
	invalid := func(z api.ZoneTown) bool {
		return !validOffset(z.Offset) || len(z.Changes) > api.MaxZoneChanges || !validChanges(z.Changes)
	}
	return !slices.ContainsFunc(towns, invalid)
}

func validChanges(changes []api.ZoneChange) bool {
	last := 0
	for _, c := range changes {
		if !within(last+1, api.MaxTime, c.At) || !validOffset(c.Offset) {
			return false
		}
		last = c.At
	}
	return true
}

// validNights reports whether nights are valid, and come one after another, and after the changes of a town.
func validNights(z api.ZoneTown, nights ...api.Span) bool {
	last := 0
	if n := len(z.Changes); n > 0 {
		last = z.Changes[n-1].At
	}
	for _, night := range nights {
		if !validSpan(night, last+1, api.MaxTime) {
			return false
		}
		last = night.High
	}
	return true
}
