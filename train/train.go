// Package train is layer 1: it counts the turns of trains of wheels and pinions, and finds the trains that the cutters of a shop can make. See shared/doc/01-train.md.
package train

import (
	"slices"

	"turret/api"
)

// Check returns the error of a shop.
func Check(s api.TrainShop) api.Errno {
	lists := [2][]int{s.Wheels, s.Pinions}
	tooMany := func(counts []int) bool { return len(counts) > api.MaxCutters }
	wrong := func(counts []int) bool { return !validCutters(counts) }
	switch {
	case slices.ContainsFunc(lists[:], tooMany):
		return api.ErrLong
	case slices.ContainsFunc(lists[:], wrong):
		return api.ErrArg
	}
	return api.OK
}

// Turns returns how often the last arbor turns while the first one turns once, and whether it turns the other way.
func Turns(l []api.TrainPair) (r api.Ratio, back bool, e api.Errno) {
	if e = checkPairs(l); e != api.OK {
		return api.Ratio{}, false, e
	}
	for arbor := range arbors(l) {
		r = arbor
	}
	return r, len(l)%2 == 1, api.OK
}

// Cycle returns after how many turns of the first arbor, for the first time, every arbor has made a whole number of turns.
func Cycle(l []api.TrainPair) (turns int, e api.Errno) {
	if e = checkPairs(l); e != api.OK {
		return 0, e
	}
	turns = 1
	for arbor := range arbors(l) {
		turns = leastMultiple(turns, arbor.Den)
	}
	return turns, api.OK
}

// Missing returns the primes of a ratio for which the shop has no cutter, in ascending order.
func Missing(s api.TrainShop, want api.Ratio) ([]int, api.Errno) {
	f, e := newFinder(s, want)
	if e != api.OK {
		return nil, e
	}
	missing := slices.Concat(uncut(f.want.Num, f.Wheels), uncut(f.want.Den, f.Pinions))
	slices.Sort(missing)
	return missing, api.OK
}

// Fewest returns all trains with a ratio that have as few pairs as possible, in ascending order.
func Fewest(s api.TrainShop, want api.Ratio) ([]api.Train, api.Errno) {
	f, e := newFinder(s, want)
	if e != api.OK {
		return nil, e
	}
	for fewer := range api.MaxTrainFew {
		var trains []api.Train
		for t := range f.exact(fewer + 1) {
			if len(trains) == api.MaxTrains {
				return nil, api.ErrLong
			}
			trains = append(trains, t)
		}
		if len(trains) > 0 {
			return trains, api.OK
		}
	}
	return nil, api.ErrNone
}

// Near returns the train with at most that many pairs whose ratio is nearest to a ratio.
func Near(s api.TrainShop, want api.Ratio, pairs int) (api.Train, api.Errno) {
	f, e := newFinder(s, want)
	if e != api.OK {
		return api.Train{}, e
	}
	if pairs < 1 || pairs > api.MaxTrainNear {
		return api.Train{}, api.ErrRange
	}
	var nearest api.Train
	least := api.Ratio{Num: 1, Den: 0} // farther than any gap
	for fewer := range pairs {
		for t := range f.trains(fewer + 1) {
			// Trains come in the order in which the document prefers them, so an equal gap does not replace the first one.
			if gap := f.gap(t); less(gap, least) {
				nearest, least = t, gap
			}
		}
	}
	return nearest, api.OK
}
