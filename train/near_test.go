package train_test

import (
	"math"
	"slices"
	"testing"

	"turret/api"
	"turret/train"
)

// P1.6

func TestNear(t *testing.T) {
	s := exampleShop()
	expectNear(t, s, ratio(59, 10), 1, oneTrain(counts(60), counts(10)))
	expectNear(t, s, ratio(118, 20), 1, oneTrain(counts(60), counts(10)))
	expectNear(t, s, ratio(12, 1), 2, oneTrain(counts(96), counts(8)))
	expectNear(t, s, ratio(48, 1), 2, oneTrain(counts(60, 64), counts(8, 10)))
	expectNear(t, s, ratio(48, 1), 1, oneTrain(counts(96), counts(8)))
	// Beyond what the shop can make.
	expectNear(t, s, ratio(1000000, 1), 1, oneTrain(counts(96), counts(8)))
	expectNear(t, s, ratio(1000000, 1), 2, oneTrain(counts(96, 96), counts(8, 8)))
	expectNear(t, s, ratio(1, 1000000), 2, oneTrain(counts(60), counts(12)))
}

func TestNearPrefersFewPairsThenTheFirst(t *testing.T) {
	s := smallShop()
	// Half too little, or half too much.
	expectNear(t, s, ratio(5, 2), 1, oneTrain(counts(20), counts(10)))
	expectNear(t, s, ratio(5, 4), 1, oneTrain(counts(20), counts(20)))
	// 3 / 1 with one pair, or 4 / 1 with two.
	expectNear(t, s, ratio(7, 2), 2, oneTrain(counts(30), counts(10)))
	expectNear(t, s, ratio(9, 4), 2, oneTrain(counts(30, 30), counts(20, 20)))
	expectNear(t, s, ratio(2, 1), 2, oneTrain(counts(20), counts(10)))
	// Of two pinions with one wheel, and of two wheels with one pinion.
	expectNear(t, shop(counts(60), counts(10, 12, 15)), ratio(11, 2), 1, oneTrain(counts(60), counts(10)))
	expectNear(t, shop(counts(50, 60), counts(10)), ratio(11, 2), 1, oneTrain(counts(50), counts(10)))
	// The same ratio with other wheels and pinions.
	expectNear(t, shop(counts(20, 40), counts(10, 20)), ratio(2, 1), 1, oneTrain(counts(20), counts(10)))
	expectNear(t, shop(counts(20, 40), counts(10, 20)), ratio(15, 8), 1, oneTrain(counts(20), counts(10)))
}

func TestNearPairs(t *testing.T) {
	for _, most := range []int{0, 3, -1, 4, math.MinInt, math.MaxInt} {
		if got, e := train.Near(exampleShop(), ratio(12, 1), most); e != api.ErrRange || !isZero(got) {
			t.Errorf("Near with %d pairs = %v, %v", most, got, e)
		}
	}
}

// nearest returns the nearest of all trains with at most that many pairs.
func nearest(s api.TrainShop, want api.Ratio, most int) api.Train {
	var list []api.Train
	for many := 1; many <= most; many++ {
		list = append(list, allTrains(s, many)...)
	}
	return slices.MinFunc(list, func(a, b api.Train) int { return gapOf(a, want).Cmp(gapOf(b, want)) })
}

func TestNearIsTheNearest(t *testing.T) {
	for _, s := range shops() {
		for i, want := range wantedRatios() {
			expectNear(t, s, want, 1, nearest(s, want, 1))
			if i%3 == 0 {
				expectNear(t, s, want, 2, nearest(s, want, 2))
			}
		}
	}
}

func TestNearOfGreatNumbers(t *testing.T) {
	s := shop(counts(389, 396, 397, 398, 399, 400), counts(391, 393, 397, 398, 399, 400))
	for _, want := range []api.Ratio{
		ratio(999999, 1000000), ratio(1000000, 999999), ratio(999983, 999979), ratio(1000000, 1), ratio(1, 1000000),
		ratio(999000, 999983), ratio(998001, 1000000), ratio(1000000, 998001),
	} {
		expectNear(t, s, want, 2, nearest(s, want, 2))
	}
}

func TestNearOfManyCutters(t *testing.T) {
	s := shop(upTo(60, 71), upTo(6, 17))
	for _, want := range []api.Ratio{ratio(355, 113), ratio(29531, 1000), ratio(1461, 4)} {
		expectNear(t, s, want, 2, nearest(s, want, 2))
	}
}

// P1.11

// more returns the shops that have one cutter more for wheels, or for pinions, than a shop.
func more(s api.TrainShop) []api.TrainShop {
	var list []api.TrainShop
	for _, n := range []int{6, 11, 25, 63, 400} {
		if !slices.Contains(s.Wheels, n) {
			list = append(list, shop(slices.Sorted(slices.Values(append(slices.Clone(s.Wheels), n))), s.Pinions))
		}
		if !slices.Contains(s.Pinions, n) {
			list = append(list, shop(s.Wheels, slices.Sorted(slices.Values(append(slices.Clone(s.Pinions), n)))))
		}
	}
	return list
}

func TestMoreCuttersNeedNoMorePairs(t *testing.T) {
	for _, s := range shops() {
		for _, want := range wantedRatios() {
			before, e := train.Fewest(s, want)
			if e != api.OK {
				continue
			}
			for _, richer := range more(s) {
				after, e := train.Fewest(richer, want)
				if e != api.OK || len(after[0].Wheels) > len(before[0].Wheels) {
					t.Errorf("%v: %v with %v, but %v, %v with %v", want, before, s, after, e, richer)
				}
			}
		}
	}
}

func TestMoreCuttersAreNoFarther(t *testing.T) {
	for _, s := range shops() {
		for i, want := range wantedRatios() {
			most := 1 + i%2
			before, e := train.Near(s, want, most)
			if e != api.OK {
				t.Fatal(s, want, e)
			}
			for _, richer := range more(s) {
				after, e := train.Near(richer, want, most)
				if e != api.OK || gapOf(after, want).Cmp(gapOf(before, want)) > 0 {
					t.Errorf("%v: %v with %v, but %v, %v with %v", want, before, s, after, e, richer)
				}
			}
		}
	}
}

func TestNearIsTheFirstExactTrain(t *testing.T) {
	for _, s := range shops() {
		for _, want := range wantedRatios() {
			trains, e := train.Fewest(s, want)
			if e != api.OK {
				continue
			}
			for most := len(trains[0].Wheels); most <= api.MaxTrainNear; most++ {
				expectNear(t, s, want, most, trains[0])
			}
		}
	}
}

// R4

func TestNearSharesNoMemory(t *testing.T) {
	s := exampleShop()
	for most := 1; most <= 2; most++ {
		got, e := train.Near(s, ratio(48, 1), most)
		if e != api.OK {
			t.Fatal(e)
		}
		pinion := got.Pinions[0]
		for i := range got.Wheels {
			got.Wheels[i]++
		}
		_ = append(got.Wheels, 0)
		if got.Pinions[0] != pinion {
			t.Errorf("the lists of %v share memory", got)
		}
		for i := range got.Pinions {
			got.Pinions[i]++
		}
		_ = append(got.Pinions, 0)
		if !sameShop(s, exampleShop()) {
			t.Errorf("the shop was changed to %v", s)
		}
	}
}
