package drop

import (
	"iter"

	"turret/api"
)

// round is a valid clock, and valid visits to it.
type round struct {
	api.DropClock
	visits []api.DropVisit
}

// newRound returns a round, or the errors of a clock and of visits.
func newRound(c api.DropClock, l []api.DropVisit) (round, api.Errno) {
	if e := Check(c); e != api.OK {
		return round{}, e
	}
	if e := checkVisits(l); e != api.OK {
		return round{}, e
	}
	return round{DropClock: c, visits: l}, api.OK
}

// newRepeated returns a round that comes again after so many days, or the errors of this.
func newRepeated(c api.DropClock, l []api.DropVisit, days int) (round, api.Errno) {
	r, e := newRound(c, l)
	if e != api.OK {
		return round{}, e
	}
	if !within(1, api.MaxDropDays, days) || !r.endsBefore(days*hoursOfDay) {
		return round{}, api.ErrRange
	}
	return r, api.OK
}

// endsBefore reports whether all visits are below an hour. The last one can come latest.
func (r round) endsBefore(hour int) bool {
	last := len(r.visits) - 1
	return last < 0 || r.visits[last].At.High < hour
}

// used returns how much line can be used in an hour.
func (r round) used(hour int) api.Span { return r.Hours[hour%hoursOfDay] }

// hours yields the hours from one until another, without this, each with how much line can be used in it.
func (r round) hours(from, until int) iter.Seq2[int, api.Span] {
	return func(yield func(int, api.Span) bool) {
		for hour := from; hour < until; hour++ {
			if !yield(hour, r.used(hour)) {
				return
			}
		}
	}
}

// canCome reports whether, after so many visits were made, the next one can be in an hour.
func (r round) canCome(made, hour int) bool {
	return made < len(r.visits) && within(r.visits[made].At.Low, r.visits[made].At.High, hour)
}

// canWait reports whether, after so many visits were made, the next one, if there is one, can be later than in an hour.
func (r round) canWait(made, hour int) bool {
	return made == len(r.visits) || hour < r.visits[made].At.High
}

// wound returns what is left after winding.
func (r round) wound(left, wind int) int { return min(r.Line, left+wind) }

// start returns how much must be left at the beginning so that the clock stops in no truth of so many days, and has the goal left after them; a number above Line if nothing is enough.
//
// The more is left, the more is left later, so the truths with the least winding and the most use decide.
func (r round) start(days, goal int) int {
	need := map[int]int{} // at the beginning of an hour, by how many visits were made
	for made := range len(r.visits) + 1 {
		need[made] = goal
	}
	for hour := days*hoursOfDay - 1; hour >= 0; hour-- {
		for made := len(r.visits); made >= 0; made-- {
			enough := 0
			if r.canWait(made, hour) {
				enough = need[made] + r.used(hour).High
			}
			if r.canCome(made, hour) {
				enough = max(enough, r.needUnwound(made, need[made+1]))
			}
			need[made] = enough
		}
	}
	return need[0]
}

// needUnwound returns how much must be left before a visit so that so much is left after it; below 0 if the visit winds more.
func (r round) needUnwound(visit, need int) int {
	if need > r.Line {
		return need // no winding is enough
	}
	return need - r.visits[visit].Wind.Low
}
