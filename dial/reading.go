package dial

import "turret/api"

// reading is what a dial showed that was looked at.
type reading struct {
	dial
	shown int
}

// read returns readings with their dials.
func (w works) read(l []api.DialReading, wind api.Span) []reading {
	var list []reading
	for _, r := range l {
		list = append(list, reading{w.dial(r.Face, wind), r.Shown})
	}
	return list
}

// right reports whether the dial can show what was read when its hands are driven to a place.
func (r reading) right(place int) bool {
	hand := r.hand(place)
	return modulo(r.shown-hand.Low, api.HalfDay) <= hand.High-hand.Low
}

// agreed returns the places, of those to which the hands can be driven at some time of near, at which all of these readings can be right. As all dials are driven by one clock, this is all that their readings have in common.
func (w works) agreed(near api.Span, readings ...reading) map[int]bool {
	agreed := map[int]bool{}
next:
	for p := range w.places(near) {
		for _, r := range readings {
			if !r.right(p) {
				continue next
			}
		}
		agreed[p] = true
	}
	return agreed
}

// apart reports whether two sets of places have none in common.
func apart(a, b map[int]bool) bool {
	for p := range a {
		if b[p] {
			return false
		}
	}
	return true
}
