package round

// set is a set of towers: a bit for each.
type set uint

// setOf returns the set of some towers.
func setOf(towers ...int) (s set) {
	for _, tower := range towers {
		s |= 1 << tower
	}
	return s
}

func (s set) has(tower int) bool { return s&setOf(tower) != 0 }

func (s set) without(others set) set { return s &^ others }

// parts yields all parts of a set, from the empty one to all of it.
func (s set) parts(yield func(set) bool) {
	part := set(0)
	for yield(part) && part != s {
		// The borrow runs through the bits that are not in s, as if those of s stood side by side and were counted up.
		part = (part - s) & s
	}
}
