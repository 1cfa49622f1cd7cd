package train

import (
	"iter"
	"slices"

	"turret/api"
)

// validTeeth reports whether wheels and pinions can have these counts of teeth.
func validTeeth(teeth ...int) bool {
	wrong := func(n int) bool { return n < api.MinTeeth || n > api.MaxTeeth }
	return !slices.ContainsFunc(teeth, wrong)
}

// validCutters reports whether counts are at least one, can be cut, and ascend strictly.
func validCutters(counts []int) bool {
	if len(counts) == 0 || !validTeeth(counts...) {
		return false
	}
	for i, n := range counts[1:] {
		if n <= counts[i] {
			return false
		}
	}
	return true
}

// checkPairs returns the error of a chain of pairs.
func checkPairs(l []api.TrainPair) api.Errno {
	wrong := func(p api.TrainPair) bool { return !validTeeth(p.Wheel, p.Pinion) }
	switch {
	case len(l) > api.MaxTrainPairs:
		return api.ErrLong
	case slices.ContainsFunc(l, wrong):
		return api.ErrArg
	}
	return api.OK
}

// arbors yields, from the first arbor to the last one, how often each turns while the first one turns once.
func arbors(l []api.TrainPair) iter.Seq[api.Ratio] {
	return func(yield func(api.Ratio) bool) {
		r := api.Ratio{Num: 1, Den: 1}
		if !yield(r) {
			return
		}
		for _, p := range l {
			r = lowest(api.Ratio{Num: product(r.Num, p.Wheel), Den: product(r.Den, p.Pinion)})
			if !yield(r) {
				return
			}
		}
	}
}

// primes yields the primes that divide a number above 0, in ascending order, each once.
func primes(n int) iter.Seq[int] {
	return func(yield func(int) bool) {
		rest := n
		for p := 2; p*p <= rest; p++ {
			if rest%p != 0 {
				continue
			}
			if !yield(p) {
				return
			}
			for rest%p == 0 {
				rest /= p
			}
		}
		if rest > 1 {
			yield(rest)
		}
	}
}

// product returns the product of counts of teeth; that of none is 1.
func product(teeth ...int) int {
	n := 1
	for _, t := range teeth {
		n *= t
	}
	return n
}

// lowest returns a ratio of numbers above 0 in lowest terms.
func lowest(r api.Ratio) api.Ratio {
	d := greatestDivisor(r.Num, r.Den)
	return api.Ratio{Num: r.Num / d, Den: r.Den / d}
}

// less reports whether a is less than b; both are at least 0, and a Den of 0 stands for a ratio without bound.
func less(a, b api.Ratio) bool { return a.Num*b.Den < b.Num*a.Den }

// greatestDivisor returns the greatest number that divides both numbers, which are above 0.
func greatestDivisor(a, b int) int {
	for b != 0 {
		a, b = b, a%b
	}
	return a
}

// leastMultiple returns the least number above 0 that both numbers divide; they are above 0.
func leastMultiple(a, b int) int { return a / greatestDivisor(a, b) * b }
