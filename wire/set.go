package wire

import (
	"math/bits"

	"turret/api"
)

// set is a set of sources: a bit for each number.
type set uint16

// setOf returns the set of these sources.
func setOf(sources ...int) set {
	var s set
	for _, n := range sources {
		s |= 1 << n
	}
	return s
}

// include reports whether all of another set are in a set.
func (s set) include(other set) bool { return s&other == other }

func (s set) size() int { return bits.OnesCount16(uint16(s)) }

// list returns the sources of a set in ascending order.
func (s set) list() []int {
	var sources []int
	for n := range api.MaxWireSources {
		if s.include(setOf(n)) {
			sources = append(sources, n)
		}
	}
	return sources
}

// sets is sets that occur.
type sets map[set]bool

// have reports whether one of the sets has all these sources.
func (s sets) have(sources ...int) bool {
	for one := range s {
		if one.include(setOf(sources...)) {
			return true
		}
	}
	return false
}

// most returns the size of the greatest sets.
func (s sets) most() int {
	most := 0
	for one := range s {
		most = max(most, one.size())
	}
	return most
}
