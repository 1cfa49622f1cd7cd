package chime

import (
	"slices"

	"turret/api"
)

// within reports whether all numbers are from low to high.
func within(low, high int, numbers ...int) bool {
	outside := func(n int) bool { return n < low || n > high }
	return !slices.ContainsFunc(numbers, outside)
}

// distinct reports whether no two elements of a list are equal.
func distinct[T comparable](list []T) bool {
	seen := map[T]bool{}
	for _, element := range list {
		if seen[element] {
			return false
		}
		seen[element] = true
	}
	return true
}

func validBell(bell int) bool { return within(0, api.MaxChimeBells-1, bell) }

// validWorks reports whether works are valid. The limits come in this order so that none is counted from a number that is not valid itself.
func validWorks(c api.ChimeWorks) bool {
	return within(1, api.MaxChimeSteps, c.Steps) && validRuns(c) && within(1, api.MaxChimeTunes, c.Tunes) && validHammers(c.Hammers) && validPins(c)
}

// validRuns reports whether the sections of works, and their runs, are as they can be.
func validRuns(c api.ChimeWorks) bool {
	return within(1, c.Steps, c.Sections) && c.Steps%c.Sections == 0 &&
		within(1, api.MaxChimeRuns, len(c.Runs)) && within(1, c.Sections, c.Runs...)
}

func validHammers(l []api.ChimeHammer) bool {
	wrong := func(h api.ChimeHammer) bool { return !validBell(h.Bell) || !within(0, api.MaxChimeSteps, h.Rest) }
	return within(1, api.MaxChimeHammers, len(l)) && !slices.ContainsFunc(l, wrong)
}

// validPins reports whether the pins of works are as they can be.
func validPins(c api.ChimeWorks) bool {
	tracks := len(c.Hammers) * c.Tunes
	wrong := func(p api.ChimePin) bool { return !within(0, tracks-1, p.Track) || !within(0, c.Steps-1, p.At) }
	return len(c.Pins) <= api.MaxChimePins && !slices.ContainsFunc(c.Pins, wrong) && distinct(c.Pins)
}

// validTune reports whether a tune is valid.
func validTune(t api.ChimeTune) bool {
	wrong := func(b api.ChimeBlow) bool { return !within(0, t.Steps-1, b.At) || !validBell(b.Bell) }
	if !within(1, api.MaxChimeSteps, t.Steps) || len(t.Blows) > api.MaxChimeBlows || slices.ContainsFunc(t.Blows, wrong) || !distinct(t.Blows) {
		return false
	}
	for _, same := range byBell(t.Blows) {
		if len(same) > api.MaxChimeSame {
			return false
		}
	}
	return true
}

// checkTune returns the error of a tune whose hammers need some rest.
func checkTune(t api.ChimeTune, rest int) api.Errno {
	switch {
	case !validTune(t):
		return api.ErrArg
	case !within(0, t.Steps, rest):
		return api.ErrRange
	}
	return api.OK
}

// checkTunes returns the error of tunes for the same barrel.
func checkTunes(l []api.ChimeTune, rest int) api.Errno {
	switch {
	case len(l) == 0:
		return api.ErrNone
	case len(l) > api.MaxChimeTunes:
		return api.ErrLong
	}
	for _, t := range l {
		if e := checkTune(t, rest); e != api.OK {
			return e
		}
		if t.Steps != l[0].Steps {
			return api.ErrForm
		}
	}
	return api.OK
}

// checkCams returns the error of cams that are looked at from a step on.
func checkCams(l []api.ChimeCam, from int) api.Errno {
	wrong := func(c api.ChimeCam) bool {
		return !within(1, api.MaxChimeCam, c.Steps) || c.Out.Low > c.Out.High || !within(0, c.Steps-1, c.Out.Low, c.Out.High)
	}
	switch {
	case len(l) > api.MaxChimeCams:
		return api.ErrLong
	case slices.ContainsFunc(l, wrong):
		return api.ErrArg
	case !within(0, api.MaxTime, from):
		return api.ErrRange
	}
	return api.OK
}
