package train_test

import (
	"math/big"
	"slices"
	"testing"

	"turret/api"
	"turret/train"
)

// counts returns a list of counts of teeth.
func counts(n ...int) []int { return n }

// upTo returns the counts from first to last.
func upTo(first, last int) []int {
	var list []int
	for n := first; n <= last; n++ {
		list = append(list, n)
	}
	return list
}

func pair(wheel, pinion int) api.TrainPair { return api.TrainPair{Wheel: wheel, Pinion: pinion} }

func pairs(p ...api.TrainPair) []api.TrainPair { return p }

func ratio(num, den int) api.Ratio { return api.Ratio{Num: num, Den: den} }

func shop(wheels, pinions []int) api.TrainShop {
	return api.TrainShop{Wheels: wheels, Pinions: pinions}
}

func oneTrain(wheels, pinions []int) api.Train { return api.Train{Wheels: wheels, Pinions: pinions} }

// exampleShop is the shop of the chapter's examples.
func exampleShop() api.TrainShop { return shop(counts(60, 64, 96), counts(8, 10, 12)) }

// smallShop has few trains, several of which have the same ratio.
func smallShop() api.TrainShop { return shop(counts(20, 30), counts(10, 20)) }

// shops are shops whose trains the tests compare with all trains that there can be.
func shops() []api.TrainShop {
	return []api.TrainShop{
		exampleShop(),
		smallShop(),
		shop(counts(6), counts(6)),
		shop(counts(6, 400), counts(6, 400)),
		shop(counts(12, 18, 24), counts(6, 8, 9, 12)),
		shop(counts(7, 14, 21, 28), counts(6, 7, 11)),
		shop(counts(30, 42, 70, 105), counts(6, 10, 15)),
	}
}

func cloneShop(s api.TrainShop) api.TrainShop {
	return shop(slices.Clone(s.Wheels), slices.Clone(s.Pinions))
}

func sameShop(a, b api.TrainShop) bool {
	return slices.Equal(a.Wheels, b.Wheels) && slices.Equal(a.Pinions, b.Pinions)
}

func sameTrain(a, b api.Train) bool { return compareTrains(a, b) == 0 }

func compareTrains(a, b api.Train) int {
	if c := slices.Compare(a.Wheels, b.Wheels); c != 0 {
		return c
	}
	return slices.Compare(a.Pinions, b.Pinions)
}

func isZero(t api.Train) bool { return len(t.Wheels)+len(t.Pinions) == 0 }

// ascending returns all lists of that many of the counts in which no count is less than the one before it.
func ascending(from []int, many int) [][]int {
	lists := [][]int{nil}
	for i := range many {
		var longer [][]int
		for _, l := range lists {
			for _, n := range from {
				if i == 0 || n >= l[i-1] {
					longer = append(longer, append(slices.Clone(l), n))
				}
			}
		}
		lists = longer
	}
	return lists
}

// allTrains returns all trains of a shop with that many pairs, in ascending order.
func allTrains(s api.TrainShop, many int) []api.Train {
	var list []api.Train
	for _, w := range ascending(s.Wheels, many) {
		for _, p := range ascending(s.Pinions, many) {
			list = append(list, oneTrain(w, p))
		}
	}
	return list
}

func rational(r api.Ratio) *big.Rat { return big.NewRat(int64(r.Num), int64(r.Den)) }

// ratioOf returns the ratio of a train.
func ratioOf(t api.Train) *big.Rat {
	r := big.NewRat(1, 1)
	for i := range t.Wheels {
		r.Mul(r, big.NewRat(int64(t.Wheels[i]), int64(t.Pinions[i])))
	}
	return r
}

// gapOf returns by how much the ratio of a train differs from a ratio.
func gapOf(t api.Train, want api.Ratio) *big.Rat {
	gap := new(big.Rat).Sub(ratioOf(t), rational(want))
	return gap.Abs(gap)
}

// wantedRatios are ratios of small numbers, in lowest terms or not, and some of great numbers.
func wantedRatios() []api.Ratio {
	list := []api.Ratio{
		ratio(1000000, 1), ratio(1, 1000000), ratio(1000000, 1000000), ratio(999999, 1000000),
		ratio(1000000, 999999), ratio(999983, 2), ratio(3, 999983), ratio(654321, 123456),
	}
	for num := 1; num <= 24; num++ {
		for den := 1; den <= 12; den++ {
			list = append(list, ratio(num, den))
		}
	}
	return list
}

// expectTrains fails unless Fewest returns those trains.
func expectTrains(t *testing.T, s api.TrainShop, want api.Ratio, trains ...api.Train) {
	t.Helper()
	got, e := train.Fewest(s, want)
	if e != api.OK || !slices.EqualFunc(got, trains, sameTrain) {
		t.Errorf("Fewest(%v, %v) = %v, %v; want %v", s, want, got, e, trains)
	}
}

// expectFewestError fails unless Fewest returns that error alone.
func expectFewestError(t *testing.T, s api.TrainShop, want api.Ratio, e api.Errno) {
	t.Helper()
	got, f := train.Fewest(s, want)
	if f != e || len(got) != 0 {
		t.Errorf("Fewest(%v, %v) = %d trains, %v; want the error %v", s, want, len(got), f, e)
	}
}

// expectNear fails unless Near returns that train.
func expectNear(t *testing.T, s api.TrainShop, want api.Ratio, most int, nearest api.Train) {
	t.Helper()
	got, e := train.Near(s, want, most)
	if e != api.OK || !sameTrain(got, nearest) {
		t.Errorf("Near(%v, %v, %d) = %v, %v; want %v", s, want, most, got, e, nearest)
	}
}

// expectMissing fails unless Missing returns those primes.
func expectMissing(t *testing.T, s api.TrainShop, want api.Ratio, primes ...int) {
	t.Helper()
	got, e := train.Missing(s, want)
	if e != api.OK || !slices.Equal(got, primes) {
		t.Errorf("Missing(%v, %v) = %v, %v; want %v", s, want, got, e, primes)
	}
}
