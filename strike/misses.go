package strike

import (
	"maps"
	"slices"

	"turret/api"
)

// listened is what was heard at a slot.
type listened api.StrikeHeard

// fits reports whether so many blows are those that were heard.
func (l listened) fits(blows int) bool { return blows == l.Blows }

// follow returns how often the strike missed at least, by the points at which it can be after all that was heard; no point if nothing can have been so.
func (t train) follow(heard []api.StrikeHeard) map[point]int {
	first := heard[0].Slot
	misses := t.starts(first)
	for later := range lastSlot(heard) - first + 1 {
		fits := func(int) bool { return true }
		if heard[0].Slot == first+later {
			fits = listened(heard[0]).fits
			heard = heard[1:]
		}
		misses = t.passAll(misses, fits)
	}
	return misses
}

// starts returns the points at which the strike can be when the first slot is next, each without a miss.
func (t train) starts(slot int) map[point]int {
	if t.Rack {
		return map[point]int{{slot, t.right(slot)}: 0}
	}
	misses := map[point]int{}
	for place := range t.places() {
		misses[point{slot, place}] = 0
	}
	return misses
}

// passAll returns the misses after a slot, whose blows have to fit.
func (t train) passAll(misses map[point]int, fits func(blows int) bool) map[point]int {
	after := map[point]int{}
	for p, missed := range misses {
		for _, miss := range bothWays {
			if !fits(t.struck(p, miss)) {
				continue
			}
			next, n := t.pass(p, miss), missed
			if miss {
				n++
			}
			if before, found := after[next]; !found || n < before {
				after[next] = n
			}
		}
	}
	return after
}

// least returns the fewest of the misses, and at which places there are so many, in ascending order.
func least(misses map[point]int) (fewest int, places []int) {
	fewest = slices.Min(slices.Collect(maps.Values(misses)))
	for p, n := range misses {
		if n == fewest {
			places = append(places, p.place)
		}
	}
	slices.Sort(places)
	return fewest, places
}
