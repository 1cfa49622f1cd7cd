package train_test

import (
	"math"
	"math/big"
	"slices"
	"testing"

	"turret/api"
	"turret/train"
)

// chain is pairs with their ratio and their cycle.
type chain struct {
	pairs  []api.TrainPair
	ratio  api.Ratio
	back   bool
	cycles int
}

func chains() []chain {
	return []chain{
		// The chapter's examples, and one across the chapters.
		{pairs(pair(96, 12), pair(60, 10)), ratio(48, 1), false, 1},
		{pairs(pair(64, 12)), ratio(16, 3), true, 3},
		{pairs(pair(64, 12), pair(60, 8)), ratio(40, 1), false, 3},
		{pairs(pair(78, 6)), ratio(13, 1), true, 1},
		{pairs(pair(20, 12)), ratio(5, 3), true, 3},
		// No pairs, and as many as are allowed.
		{nil, ratio(1, 1), false, 1},
		{pairs(), ratio(1, 1), false, 1},
		{slices.Repeat(pairs(pair(12, 6)), 6), ratio(64, 1), false, 1},
		{slices.Repeat(pairs(pair(12, 6)), 5), ratio(32, 1), true, 1},
		// The least and the greatest counts.
		{pairs(pair(6, 6)), ratio(1, 1), true, 1},
		{pairs(pair(400, 400)), ratio(1, 1), true, 1},
		{pairs(pair(6, 400)), ratio(3, 200), true, 200},
		{pairs(pair(400, 6)), ratio(200, 3), true, 3},
		{slices.Repeat(pairs(pair(400, 6)), 6), ratio(64000000000000, 729), false, 729},
		{slices.Repeat(pairs(pair(6, 400)), 6), ratio(729, 64000000000000), false, 64000000000000},
		{slices.Repeat(pairs(pair(400, 399)), 6), ratio(4096000000000000, 4034942722397601), false, 4034942722397601},
		{slices.Repeat(pairs(pair(399, 400)), 6), ratio(4034942722397601, 4096000000000000), false, 4096000000000000},
		// An arbor between the first and the last one can need more turns than the last one.
		{pairs(pair(60, 8), pair(64, 12)), ratio(40, 1), false, 2},
		{pairs(pair(7, 11), pair(11, 7)), ratio(1, 1), false, 11},
		{pairs(pair(60, 9), pair(60, 7), pair(63, 6)), ratio(600, 1), true, 21},
		{pairs(pair(10, 12), pair(10, 8), pair(12, 10), pair(8, 10)), ratio(1, 1), false, 24},
	}
}

// P1.2

func TestTurns(t *testing.T) {
	for _, c := range chains() {
		r, back, e := train.Turns(c.pairs)
		if r != c.ratio || back != c.back || e != api.OK {
			t.Errorf("Turns(%v) = %v, %v, %v; want %v, %v", c.pairs, r, back, e, c.ratio, c.back)
		}
	}
}

func TestTurnsInLowestTerms(t *testing.T) {
	for wheel := api.MinTeeth; wheel <= api.MaxTeeth; wheel += 7 {
		for pinion := api.MinTeeth; pinion <= api.MaxTeeth; pinion += 11 {
			r, _, e := train.Turns(pairs(pair(wheel, pinion), pair(pinion, 100), pair(90, wheel)))
			if r != ratio(9, 10) || e != api.OK {
				t.Fatalf("%d, %d: %v, %v", wheel, pinion, r, e)
			}
			r, _, e = train.Turns(pairs(pair(wheel, pinion)))
			want := big.NewRat(int64(wheel), int64(pinion))
			if int64(r.Num) != want.Num().Int64() || int64(r.Den) != want.Denom().Int64() || e != api.OK {
				t.Fatalf("%d, %d: %v, %v; want %v", wheel, pinion, r, e, want)
			}
		}
	}
}

// badChain is pairs that are not valid, with their error.
type badChain struct {
	pairs []api.TrainPair
	e     api.Errno
}

func badChains() []badChain {
	good := pair(60, 10)
	list := []badChain{
		{slices.Repeat(pairs(good), 7), api.ErrLong},
		{slices.Repeat(pairs(good), 1000), api.ErrLong},
		// Both errors apply.
		{slices.Repeat(pairs(pair(1, 1)), 7), api.ErrLong},
		{append(slices.Repeat(pairs(good), 6), pair(401, 5)), api.ErrLong},
	}
	for _, n := range []int{5, 401, 0, -10, math.MinInt, math.MaxInt} {
		for _, wrong := range []api.TrainPair{pair(n, 10), pair(60, n), pair(n, n)} {
			list = append(list,
				badChain{pairs(wrong), api.ErrArg},
				badChain{pairs(wrong, good, good), api.ErrArg},
				badChain{pairs(good, wrong, good), api.ErrArg},
				badChain{append(slices.Repeat(pairs(good), 5), wrong), api.ErrArg})
		}
	}
	return list
}

func TestTurnsErrors(t *testing.T) {
	for _, c := range badChains() {
		if r, back, e := train.Turns(c.pairs); r != ratio(0, 0) || back || e != c.e {
			t.Errorf("Turns(%v) = %v, %v, %v; want the error %v", c.pairs, r, back, e, c.e)
		}
	}
}

// P1.3

func TestCycle(t *testing.T) {
	for _, c := range chains() {
		if n, e := train.Cycle(c.pairs); n != c.cycles || e != api.OK {
			t.Errorf("Cycle(%v) = %v, %v; want %v", c.pairs, n, e, c.cycles)
		}
	}
}

func TestCycleErrors(t *testing.T) {
	for _, c := range badChains() {
		if n, e := train.Cycle(c.pairs); n != 0 || e != c.e {
			t.Errorf("Cycle(%v) = %v, %v; want the error %v", c.pairs, n, e, c.e)
		}
	}
}

// P1.9

// allWhole reports whether every arbor makes a whole number of turns in that many turns of the first one.
func allWhole(l []api.TrainPair, turns int) bool {
	r := big.NewRat(int64(turns), 1)
	for _, p := range l {
		r.Mul(r, big.NewRat(int64(p.Wheel), int64(p.Pinion)))
		if !r.IsInt() {
			return false
		}
	}
	return true
}

func TestWholeTurnsJustAfterCycles(t *testing.T) {
	for _, c := range chains() {
		cycle, e := train.Cycle(c.pairs)
		if e != api.OK {
			t.Fatal(c.pairs, e)
		}
		for n := 1; n <= 1000; n++ {
			if whole := allWhole(c.pairs, n); whole != (n%cycle == 0) {
				t.Fatalf("%v: cycle %d, but whole after %d turns: %v", c.pairs, cycle, n, whole)
			}
		}
		if !allWhole(c.pairs, cycle) || !allWhole(c.pairs, 2*cycle) {
			t.Errorf("%v: not whole after the cycle %d", c.pairs, cycle)
		}
	}
}

func TestRatioIsThatOfAllOrders(t *testing.T) {
	l := pairs(pair(64, 12), pair(60, 8), pair(77, 9))
	want, back, e := train.Turns(l)
	if e != api.OK {
		t.Fatal(e)
	}
	orders := [][3]int{{0, 1, 2}, {0, 2, 1}, {1, 0, 2}, {1, 2, 0}, {2, 0, 1}, {2, 1, 0}}
	for _, wheels := range orders {
		for _, pinions := range orders {
			var other []api.TrainPair
			for i := range 3 {
				other = append(other, pair(l[wheels[i]].Wheel, l[pinions[i]].Pinion))
			}
			if r, b, e := train.Turns(other); r != want || b != back || e != api.OK {
				t.Errorf("Turns(%v) = %v, %v, %v; want %v", other, r, b, e, want)
			}
		}
	}
}

// R4

func TestPairsAreNotChanged(t *testing.T) {
	for _, c := range chains() {
		before := slices.Clone(c.pairs)
		train.Turns(c.pairs)
		train.Cycle(c.pairs)
		if !slices.Equal(c.pairs, before) {
			t.Errorf("%v was changed to %v", before, c.pairs)
		}
	}
}
