package train

import (
	"iter"
	"slices"

	"turret/api"
)

// finder looks for trains of a valid shop; the wanted ratio is in lowest terms.
type finder struct {
	api.TrainShop
	want api.Ratio
}

// newFinder returns the finder of a shop and a wanted ratio, or the errors that all who look for trains have first.
func newFinder(s api.TrainShop, want api.Ratio) (finder, api.Errno) {
	if e := Check(s); e != api.OK {
		return finder{}, e
	}
	valid := func(n int) bool { return n >= 1 && n <= api.MaxTrainRatio }
	if !valid(want.Num) || !valid(want.Den) {
		return finder{}, api.ErrArg
	}
	return finder{TrainShop: s, want: lowest(want)}, api.OK
}

// exact yields all trains with that many pairs that have the wanted ratio, in ascending order.
func (f finder) exact(pairs int) iter.Seq[api.Train] {
	return func(yield func(api.Train) bool) {
		pinionsOf := map[int][][]int{}
		for pinions := range choices(f.Pinions, pairs) {
			n := product(pinions...)
			pinionsOf[n] = append(pinionsOf[n], pinions)
		}
		for wheels := range choices(f.Wheels, pairs) {
			n := product(wheels...)
			if n%f.want.Num != 0 {
				continue // Num has no prime in common with Den, so all of it comes from the wheels
			}
			for _, pinions := range pinionsOf[n/f.want.Num*f.want.Den] {
				// Several trains can have the same list, and no two may share its memory.
				if !yield(api.Train{Wheels: slices.Clone(wheels), Pinions: slices.Clone(pinions)}) {
					return
				}
			}
		}
	}
}

// trains yields all trains with that many pairs, in ascending order; those with the same wheels share their memory.
func (f finder) trains(pairs int) iter.Seq[api.Train] {
	return func(yield func(api.Train) bool) {
		for wheels := range choices(f.Wheels, pairs) {
			for pinions := range choices(f.Pinions, pairs) {
				if !yield(api.Train{Wheels: wheels, Pinions: pinions}) {
					return
				}
			}
		}
	}
}

// gap returns how much the ratio of a train differs from the wanted one, times the Den of this: without this factor, which all gaps have, two gaps can be compared without overflow.
func (f finder) gap(t api.Train) api.Ratio {
	wheels, pinions := product(t.Wheels...), product(t.Pinions...)
	more := wheels*f.want.Den - pinions*f.want.Num
	return api.Ratio{Num: max(more, -more), Den: pinions}
}

// choices yields all lists of that many of the counts, each in ascending order, and the lists in ascending order. Each list is new.
func choices(counts []int, many int) iter.Seq[[]int] {
	return func(yield func([]int) bool) {
		if many == 0 {
			yield(nil)
			return
		}
		for i, least := range counts {
			for others := range choices(counts[i:], many-1) {
				if !yield(slices.Concat([]int{least}, others)) {
					return
				}
			}
		}
	}
}

// uncut returns the primes of a number that divide none of the counts, in ascending order.
func uncut(n int, counts []int) []int {
	var list []int
	for p := range primes(n) {
		cut := func(teeth int) bool { return teeth%p == 0 }
		if !slices.ContainsFunc(counts, cut) {
			list = append(list, p)
		}
	}
	return list
}
