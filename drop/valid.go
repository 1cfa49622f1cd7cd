package drop

import (
	"slices"

	"turret/api"
)

// hoursOfDay is how many hours a day has.
const hoursOfDay = api.Day / api.Hour

// within reports whether all numbers are from low to high.
func within(low, high int, numbers ...int) bool {
	outside := func(n int) bool { return n < low || n > high }
	return !slices.ContainsFunc(numbers, outside)
}

// validSpan reports whether a span is valid from 0 to high.
func validSpan(s api.Span, high int) bool {
	return s.Low <= s.High && within(0, high, s.Low, s.High)
}

// validHours reports whether there is a valid span for each hour of a day.
func validHours(hours []api.Span) bool {
	wrong := func(s api.Span) bool { return !validSpan(s, api.MaxDropLine) }
	return len(hours) == hoursOfDay && !slices.ContainsFunc(hours, wrong)
}

// checkVisits returns the error of a list of visits.
func checkVisits(l []api.DropVisit) api.Errno {
	wrong := func(v api.DropVisit) bool {
		return !validSpan(v.At, api.MaxDropHours) || !validSpan(v.Wind, api.MaxDropLine)
	}
	switch {
	case len(l) > api.MaxDropVisits:
		return api.ErrLong
	case slices.ContainsFunc(l, wrong), !inOrder(l):
		return api.ErrArg
	}
	return api.OK
}

// inOrder reports whether both ends of each At are at least those of the visit before.
func inOrder(l []api.DropVisit) bool {
	before := [2]int{}
	for _, v := range l {
		ends := [2]int{v.At.Low, v.At.High}
		if ends[0] < before[0] || ends[1] < before[1] {
			return false
		}
		before = ends
	}
	return true
}
