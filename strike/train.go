package strike

import (
	"slices"

	"turret/api"
)

// hours is how many hours half a day has, and how many blows noon and midnight have.
const hours = api.HalfDay / api.Hour

// bothWays are the ways to hold a strike, which makes it miss; the greater one comes first.
var bothWays = [2]bool{true, false}

// train is a strike with valid rules.
type train struct{ api.StrikeRules }

// newTrain returns a strike, or the errors of its rules.
func newTrain(r api.StrikeRules) (train, api.Errno) {
	if e := Check(r); e != api.OK {
		return train{}, e
	}
	return train{r}, api.OK
}

// newTrainAt returns a strike, or the errors of its rules, of the slot that is next, and of its place.
func newTrainAt(r api.StrikeRules, slot, place int) (train, api.Errno) {
	t, e := newTrain(r)
	switch {
	case e != api.OK:
		return train{}, e
	case !validSlot(slot):
		return train{}, api.ErrRange
	case !within(0, t.places()-1, place), t.Rack && place != t.right(slot):
		return train{}, api.ErrArg
	}
	return t, api.OK
}

// point is a place at which a strike is when a slot is next.
type point struct{ slot, place int }

// places returns how many places there are.
func (t train) places() int {
	if t.Halves {
		return 2 * hours
	}
	return hours
}

func (t train) slotsOfDay() int { return 2 * t.places() }

// right returns the right place at a slot.
func (t train) right(slot int) int { return slot % t.places() }

// blows returns how many blows the strike has at a place.
func (t train) blows(place int) int {
	hour := place
	if t.Halves {
		if place%2 == 1 {
			return 1
		}
		hour = place / 2
	}
	if hour == 0 {
		return hours
	}
	return hour
}

// silent reports whether a slot is silent.
func (t train) silent(slot int) bool {
	slot %= t.slotsOfDay()
	covers := func(s api.Span) bool { return within(s.Low, s.High, slot) }
	return slices.ContainsFunc(t.Quiet, covers)
}

// due returns how many blows are right at a slot.
func (t train) due(slot int) int { return t.struck(point{slot, t.right(slot)}, false) }

// struck returns how many blows there are when the slot of a point comes.
func (t train) struck(p point, miss bool) int {
	if miss || t.silent(p.slot) {
		return 0
	}
	return t.blows(p.place)
}

// pass returns where the strike is after the slot of a point.
func (t train) pass(p point, miss bool) point {
	slot := p.slot + 1
	switch {
	case t.Rack:
		return point{slot, t.right(slot)}
	case miss:
		return point{slot, p.place}
	}
	return point{slot, t.turned(p.place)}
}

// letOff returns where the strike is after it was let off by hand.
func (t train) letOff(p point) point {
	if t.Rack {
		return p
	}
	return point{p.slot, t.turned(p.place)}
}

// turned returns where a count wheel is after it struck at a place.
func (t train) turned(place int) int { return (place + 1) % t.places() }

// do returns where the strike is after a step, and how many blows there were by hand.
func (t train) do(p point, step api.StrikeStep) (after point, hand int) {
	for range step.Off {
		hand += t.blows(p.place)
		p = t.letOff(p)
	}
	return t.pass(p, step.Hold), hand
}
