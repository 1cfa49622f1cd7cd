package beat

import (
	"slices"

	"turret/api"
)

// within reports whether all numbers are from low to high.
func within(low, high int, numbers ...int) bool {
	outside := func(n int) bool { return n < low || n > high }
	return !slices.ContainsFunc(numbers, outside)
}

// validSpan reports whether a span is valid within another one.
func validSpan(s, most api.Span) bool {
	return s.Low <= s.High && within(most.Low, most.High, s.Low, s.High)
}

// validClock reports whether a clock that does not have too many rods is valid.
func validClock(c api.BeatClock) bool {
	wrong := func(r api.BeatRod) bool { return !validRod(r) }
	if len(c.Rods) == 0 || slices.ContainsFunc(c.Rods, wrong) {
		return false
	}
	return within(-api.MaxBeatBase, api.MaxBeatBase, c.Base) &&
		validSpan(c.Air, either(api.MaxBeatAir)) && validDrive(c.Kind, c.Drive) &&
		within(api.MinBeatLength, api.MaxBeatLength, length(c.Rods))
}

// validRod reports whether a rod can be one of a pendulum.
func validRod(r api.BeatRod) bool {
	return within(1, api.MaxBeatLength, r.Length) && validSpan(r.Grow, api.Span{High: api.MaxBeatGrow})
}

// validDrive reports whether an escapement of that kind can have this drive. Each kind allows no more than the next one.
func validDrive(kind api.BeatKind, d api.Span) bool {
	switch kind {
	case api.BeatGravity:
		if d.High != 0 {
			return false
		}
		fallthrough
	case api.BeatRecoil:
		if d.Low < 0 {
			return false
		}
		fallthrough
	case api.BeatRest:
		return validSpan(d, either(api.MaxBeatDrive))
	}
	return false
}

// validBounds reports whether bounds are valid.
func validBounds(b api.BeatBounds) bool {
	w := widest()
	return validSpan(b.Heat, w.Heat) && validSpan(b.Press, w.Press) && validSpan(b.Arc, w.Arc) && validSpan(b.Force, w.Force)
}

// widest returns the widest bounds.
func widest() api.BeatBounds {
	return api.BeatBounds{
		Heat:  either(api.MaxBeatHeat),
		Press: either(api.MaxBeatPress),
		Arc:   api.Span{High: api.MaxBeatArc},
		Force: either(api.MaxBeatForce),
	}
}

// either returns the span up to a number to either side of 0.
func either(most int) api.Span { return api.Span{Low: -most, High: most} }
