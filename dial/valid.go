package dial

import (
	"slices"

	"turret/api"
)

// within reports whether all numbers are from low to high.
func within(low, high int, numbers ...int) bool {
	outside := func(n int) bool { return n < low || n > high }
	return !slices.ContainsFunc(numbers, outside)
}

// validSpan reports whether a span is valid from low to high.
func validSpan(s api.Span, low, high int) bool {
	return s.Low <= s.High && within(low, high, s.Low, s.High)
}

func validWind(s api.Span) bool { return validSpan(s, -api.MaxDialForce, api.MaxDialForce) }

func validError(s api.Span) bool { return validSpan(s, -api.MaxDialError, api.MaxDialError) }

// validWorks reports whether works are valid.
func validWorks(w api.DialWorks) bool {
	wrong := func(f api.DialFace) bool { return !validFace(f) }
	return within(1, api.Hour, w.Jump) && api.Hour%w.Jump == 0 && validError(w.Error) &&
		within(1, api.MaxDialFaces, len(w.Faces)) && !slices.ContainsFunc(w.Faces, wrong)
}

// validFace reports whether a face is valid.
func validFace(f api.DialFace) bool {
	wrong := func(l api.DialLink) bool { return !validLink(l) }
	if len(f.Links) > api.MaxDialLinks || slices.ContainsFunc(f.Links, wrong) {
		return false
	}
	return slack(f.Links) <= api.MaxDialError && validError(f.Set) &&
		within(-api.MaxDialForce, api.MaxDialForce, f.Weight) && within(0, api.MaxDialForce, f.Friction)
}

func validLink(l api.DialLink) bool {
	return within(0, 1000, l.Slack) && within(1, api.MaxDialTurns, l.Turns.Num, l.Turns.Den)
}

// slack returns the slack of a face in seconds, rounded up; the links are valid.
func slack(links []api.DialLink) int {
	// The sum is exact: num is below 2^55 with as many links as a face can have.
	num, den := 0, 1
	for _, l := range links {
		num = num*l.Turns.Num + l.Slack*api.Hour*l.Turns.Den*den
		den *= l.Turns.Num
	}
	den *= 1000
	return (num + den - 1) / den
}

// checkReadings returns the errors of readings.
func checkReadings(w api.DialWorks, l []api.DialReading, near, wind api.Span) api.Errno {
	switch {
	case !validWorks(w):
		return api.ErrArg
	case len(l) > api.MaxDialReadings:
		return api.ErrLong
	}
	for _, r := range l {
		switch {
		case !within(0, len(w.Faces)-1, r.Face):
			return api.ErrNone
		case !within(0, api.HalfDay-1, r.Shown):
			return api.ErrArg
		}
	}
	switch {
	case !validSpan(near, 0, api.MaxTime), near.High-near.Low > api.MaxDialNear:
		return api.ErrRange
	case !validWind(wind):
		return api.ErrArg
	}
	return api.OK
}
