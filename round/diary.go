package round

import (
	"iter"
	"slices"

	"turret/api"
)

// diary is valid winding days. On the day 0, which is not in it, all towers are wound.
type diary []api.RoundDay

// windings yields the days of a diary on which a tower is wound.
func (d diary) windings(tower int) iter.Seq[int] {
	return func(yield func(int) bool) {
		for _, on := range d {
			if slices.Contains(on.Towers, tower) && !yield(on.Day) {
				return
			}
		}
	}
}

// last returns the last day, not after a day, on which a tower was wound.
func (d diary) last(tower, day int) (last int) {
	for wound := range d.windings(tower) {
		if wound > day {
			break
		}
		last = wound
	}
	return last
}

// stop returns the first day on which a tower stops that goes so many days.
func (d diary) stop(tower, goes int) (day int) {
	day = goes
	for wound := range d.windings(tower) {
		if wound > day {
			break
		}
		day = wound + goes
	}
	return day
}
