package train_test

import (
	"math"
	"testing"

	"turret/api"
	"turret/train"
)

// P1.1

func TestCheckAcceptsShops(t *testing.T) {
	for _, s := range []api.TrainShop{
		exampleShop(),
		shop(counts(6), counts(6)),
		shop(counts(400), counts(400)),
		shop(counts(6, 400), counts(6, 7)),
		shop(upTo(6, 17), upTo(389, 400)),
	} {
		if e := train.Check(s); e != api.OK {
			t.Errorf("Check(%v) = %v", s, e)
		}
	}
}

// badShop is a shop that is not valid, with its error.
type badShop struct {
	shop api.TrainShop
	e    api.Errno
}

func badShops() []badShop {
	good, many := counts(60, 64), upTo(6, 18)
	list := []badShop{
		{shop(many, good), api.ErrLong},
		{shop(good, many), api.ErrLong},
		{shop(many, many), api.ErrLong},
		// Both errors apply.
		{shop(many, nil), api.ErrLong},
		{shop(nil, many), api.ErrLong},
		{shop(counts(3), many), api.ErrLong},
		{shop(many, counts(401)), api.ErrLong},
		{shop(make([]int, 13), good), api.ErrLong},
		{shop(good, make([]int, 1000)), api.ErrLong},
		{shop(nil, nil), api.ErrArg},
	}
	for _, wrong := range [][]int{
		nil, {}, {5}, {401}, {0}, {-60}, {math.MinInt}, {math.MaxInt},
		{5, 60}, {60, 401}, {60, 60}, {60, 50}, {10, 20, 15}, {10, 20, 20}, {60, math.MinInt}, make([]int, 12),
	} {
		list = append(list, badShop{shop(wrong, good), api.ErrArg}, badShop{shop(good, wrong), api.ErrArg}, badShop{shop(wrong, wrong), api.ErrArg})
	}
	return list
}

func TestCheckRejectsShops(t *testing.T) {
	for _, c := range badShops() {
		if e := train.Check(c.shop); e != c.e {
			t.Errorf("Check(%v) = %v; want %v", c.shop, e, c.e)
		}
	}
}

// expectError fails unless all three who look for trains return that error alone.
func expectError(t *testing.T, s api.TrainShop, want api.Ratio, most int, e api.Errno) {
	t.Helper()
	if primes, f := train.Missing(s, want); f != e || len(primes) != 0 {
		t.Errorf("Missing(%v, %v) = %v, %v; want the error %v", s, want, primes, f, e)
	}
	expectFewestError(t, s, want, e)
	if nearest, f := train.Near(s, want, most); f != e || !isZero(nearest) {
		t.Errorf("Near(%v, %v, %d) = %v, %v; want the error %v", s, want, most, nearest, f, e)
	}
}

func TestShopErrorsComeFirst(t *testing.T) {
	for _, c := range badShops() {
		expectError(t, c.shop, ratio(12, 1), 1, c.e)
		expectError(t, c.shop, ratio(0, 1), 1, c.e)
		expectError(t, c.shop, ratio(12, 1), 3, c.e)
		expectError(t, c.shop, ratio(-1, math.MaxInt), math.MinInt, c.e)
	}
}

func TestRatioErrors(t *testing.T) {
	for _, n := range []int{0, -1, 1000001, math.MinInt, math.MaxInt} {
		for _, want := range []api.Ratio{ratio(n, 1), ratio(1, n), ratio(n, n)} {
			// The wrong number of pairs is an error that Near names later.
			for _, most := range []int{1, 2, 0, 3, -1} {
				expectError(t, exampleShop(), want, most, api.ErrArg)
			}
		}
	}
}

func TestRatioLimits(t *testing.T) {
	s := shop(counts(6, 10, 400), counts(6, 10, 400))
	for _, want := range []api.Ratio{ratio(1, 1), ratio(1000000, 1), ratio(1, 1000000), ratio(1000000, 1000000)} {
		if _, e := train.Missing(s, want); e != api.OK {
			t.Errorf("Missing(%v) = %v", want, e)
		}
		if _, e := train.Fewest(s, want); e != api.OK && e != api.ErrNone {
			t.Errorf("Fewest(%v) = %v", want, e)
		}
		if _, e := train.Near(s, want, 2); e != api.OK {
			t.Errorf("Near(%v) = %v", want, e)
		}
	}
}
