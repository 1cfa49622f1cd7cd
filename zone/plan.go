package zone

import (
	"slices"

	"turret/api"
)

// plan is a town whose clocks are to be changed once more, with the offset before and the one after.
type plan struct {
	town
	offsets [2]int
}

// newPlan returns the plan of a change to an offset.
func newPlan(z town, offset int) plan { return plan{z, [2]int{z.last(), offset}} }

// last returns the last offset of a town.
func (z town) last() int { return z.offset(api.MaxTime) }

// changed returns a town whose clocks were changed at an instant.
func (p plan) changed(at int) town {
	z := p.ZoneTown
	z.Changes = append(slices.Clone(p.Changes), api.ZoneChange{At: at, Offset: p.offsets[1]})
	return town{z}
}

// first returns the first instant of a span at which the clocks can be changed so that each minute of contracts comes once.
func (p plan) first(contracts []int, when api.Span) (int, api.Errno) {
	if len(p.Changes) >= api.MaxZoneChanges {
		return 0, api.ErrFull
	}
	can := []api.Span{when}
	for _, minute := range contracts {
		can = common(can, p.allows(minute, when))
	}
	if len(can) == 0 {
		return 0, api.ErrNone
	}
	return can[0].Low, api.OK
}

// allows returns the instants of a span at which the clocks can be changed so that a minute comes once.
func (p plan) allows(minute int, when api.Span) []api.Span {
	cuts := []int{when.Low, when.High + 1}
	// With the change one instant later, only this instant has another offset. So the minute means the same, unless it has this instant with the offset before or with the one after.
	for _, offset := range p.offsets {
		at, comes := era{when, offset}.means(minute)
		for t := at.Low; comes && t <= at.High; t++ {
			cuts = append(cuts, t+1)
		}
	}
	return where(func(at int) bool { return p.changed(at).once(minute) }, cuts...)
}

// move returns the changes by which the clocks are moved to an offset, night after night, by at most step seconds each.
func (z town) move(offset, step int, contracts []int, nights []api.Span) ([]api.ZoneChange, api.Errno) {
	var changes []api.ZoneChange
	for _, night := range nights {
		last := z.last()
		if last == offset {
			break
		}
		p := newPlan(z, last+max(-step, min(step, offset-last)))
		at, e := p.first(contracts, night)
		if e == api.ErrNone {
			continue
		}
		if e != api.OK {
			return nil, e
		}
		z = p.changed(at)
		changes = append(changes, api.ZoneChange{At: at, Offset: z.last()})
	}
	if z.last() != offset {
		return nil, api.ErrNone
	}
	return changes, api.OK
}
