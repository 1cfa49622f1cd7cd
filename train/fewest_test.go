package train_test

import (
	"math/big"
	"slices"
	"testing"

	"turret/api"
	"turret/train"
)

// P1.4

func TestMissing(t *testing.T) {
	expectMissing(t, exampleShop(), ratio(7, 11), 7, 11)
	expectMissing(t, exampleShop(), ratio(14, 22), 7, 11)
	expectMissing(t, exampleShop(), ratio(9, 1))
	expectMissing(t, exampleShop(), ratio(1, 1))
	// The primes of both numbers are in one order.
	expectMissing(t, exampleShop(), ratio(22, 7), 7, 11)
	expectMissing(t, exampleShop(), ratio(7*13*19, 11*17), 7, 11, 13, 17, 19)
	// Each prime is there once.
	expectMissing(t, exampleShop(), ratio(49, 1331), 7, 11)
	expectMissing(t, exampleShop(), ratio(823543, 1), 7)
	// A great prime, and a prime with a rest that is a prime.
	expectMissing(t, exampleShop(), ratio(999983, 1), 999983)
	expectMissing(t, exampleShop(), ratio(1, 999983), 999983)
	expectMissing(t, exampleShop(), ratio(2*499979, 3), 499979)
	expectMissing(t, exampleShop(), ratio(997*997, 1), 997)
	// What divides both numbers is not missing.
	expectMissing(t, exampleShop(), ratio(7, 7))
	expectMissing(t, exampleShop(), ratio(1000000, 1000000))
	expectMissing(t, exampleShop(), ratio(7*49, 49), 7)
}

func TestMissingLooksAtEitherList(t *testing.T) {
	s := shop(counts(14, 55), counts(9, 26))
	expectMissing(t, s, ratio(2*5*7*11, 2*3*13)) // the 2 of both numbers does not count
	expectMissing(t, s, ratio(4, 27))
	expectMissing(t, s, ratio(3*13, 1), 3, 13)      // only pinions have them
	expectMissing(t, s, ratio(1, 5*7*11), 5, 7, 11) // only wheels have them
	expectMissing(t, shop(counts(15), counts(9)), ratio(2, 1), 2)
	expectMissing(t, shop(counts(15), counts(9)), ratio(1, 2), 2)
}

// P1.5

func TestFewest(t *testing.T) {
	s := exampleShop()
	expectTrains(t, s, ratio(12, 1), oneTrain(counts(96), counts(8)))
	expectTrains(t, s, ratio(48, 1), oneTrain(counts(60, 64), counts(8, 10)), oneTrain(counts(60, 96), counts(10, 12)))
	expectTrains(t, s, ratio(60, 1), oneTrain(counts(60, 64), counts(8, 8)), oneTrain(counts(60, 96), counts(8, 12)))
	expectFewestError(t, s, ratio(9, 1), api.ErrNone)
	expectFewestError(t, s, ratio(7, 11), api.ErrNone)
	expectTrains(t, shop(counts(78), counts(6)), ratio(13, 1), oneTrain(counts(78), counts(6)))
	// Not in lowest terms.
	expectTrains(t, s, ratio(999996, 83333), oneTrain(counts(96), counts(8)))
	expectTrains(t, s, ratio(96, 2), oneTrain(counts(60, 64), counts(8, 10)), oneTrain(counts(60, 96), counts(10, 12)))
}

func TestFewestHasAPair(t *testing.T) {
	expectFewestError(t, exampleShop(), ratio(1, 1), api.ErrNone)
	expectTrains(t, smallShop(), ratio(1, 1), oneTrain(counts(20), counts(20)))
	expectTrains(t, shop(counts(6), counts(6)), ratio(5, 5), oneTrain(counts(6), counts(6)))
}

func TestFewestUpToFourPairs(t *testing.T) {
	s := smallShop()
	expectTrains(t, s, ratio(2, 1), oneTrain(counts(20), counts(10)))
	expectTrains(t, s, ratio(4, 1), oneTrain(counts(20, 20), counts(10, 10)))
	expectTrains(t, s, ratio(8, 1), oneTrain(counts(20, 20, 20), counts(10, 10, 10)))
	expectTrains(t, s, ratio(16, 1), oneTrain(counts(20, 20, 20, 20), counts(10, 10, 10, 10)))
	expectFewestError(t, s, ratio(32, 1), api.ErrNone) // five pairs
	// Counts, and ratios, that are as great as can be.
	great := shop(counts(399, 400), counts(397, 398))
	expectTrains(t, great, ratio(160000, 158006), oneTrain(counts(400, 400), counts(397, 398)))
	expectTrains(t, shop(counts(400), counts(400)), ratio(1000000, 1000000), oneTrain(counts(400), counts(400)))
	expectTrains(t, shop(counts(320), counts(10)), ratio(1048576/2, 16), oneTrain(counts(320, 320, 320), counts(10, 10, 10)))
	expectTrains(t, shop(counts(180), counts(6)), ratio(810000, 1), oneTrain(counts(180, 180, 180, 180), counts(6, 6, 6, 6)))
	expectTrains(t, shop(counts(6), counts(180)), ratio(1, 810000), oneTrain(counts(6, 6, 6, 6), counts(180, 180, 180, 180)))
}

func TestFewestOfManyCutters(t *testing.T) {
	s := shop(upTo(33, 44), upTo(33, 44))
	var each []api.Train
	for n := 33; n <= 44; n++ {
		each = append(each, oneTrain(counts(n), counts(n)))
	}
	expectTrains(t, s, ratio(1, 1), each...)
}

// countExact returns how many trains with four pairs have a whole number as their ratio.
func countExact(s api.TrainShop, want int) int {
	times := map[int]int{}
	for _, p := range ascending(s.Pinions, 4) {
		times[p[0]*p[1]*p[2]*p[3]*want]++
	}
	n := 0
	for _, w := range ascending(s.Wheels, 4) {
		n += times[w[0]*w[1]*w[2]*w[3]]
	}
	return n
}

// The wanted ratio has the prime 7 four times, and each wheel has it once, so no train has less than four pairs.
func TestFewestLimit(t *testing.T) {
	want := ratio(2401, 1)
	full := shop(counts(7, 35, 56, 84, 105, 126, 189, 210, 224, 252, 280, 378), counts(15, 16, 24, 25, 27, 30, 36, 40, 48, 96))
	if n := countExact(full, 2401); n != 2000 {
		t.Fatalf("the test's shop has %d trains", n)
	}
	got, e := train.Fewest(full, want)
	if len(got) != 2000 || e != api.OK || !slices.IsSortedFunc(got, compareTrains) {
		t.Errorf("2000 trains: %d, %v", len(got), e)
	}
	over := shop(counts(35, 56, 63, 105, 140, 168, 252, 315, 336, 378), counts(6, 16, 18, 24, 27, 30, 32, 45, 64, 81, 96))
	if n := countExact(over, 2401); n != 2001 {
		t.Fatalf("the test's shop has %d trains", n)
	}
	expectFewestError(t, over, want, api.ErrLong)
	most := shop(counts(7, 14, 21, 28, 42, 56, 63, 84, 112, 126, 168, 252), counts(6, 8, 9, 12, 16, 18, 24, 27, 32, 36, 48, 54))
	expectFewestError(t, most, want, api.ErrLong)
}

// P1.7

func TestFewestReturnsJustTheExactTrains(t *testing.T) {
	for _, s := range shops() {
		known := trainsByRatio(s)
		for _, want := range wantedRatios() {
			expectFewestOf(t, s, known, want)
		}
		for _, trains := range known[:2] {
			for text := range trains {
				r, _ := new(big.Rat).SetString(text)
				if num, den := r.Num().Int64(), r.Denom().Int64(); num <= api.MaxTrainRatio && den <= api.MaxTrainRatio {
					expectFewestOf(t, s, known, ratio(int(num), int(den)))
				}
			}
		}
	}
}

// trainsByRatio returns all trains of a shop with one pair by their ratio, then those with two, three and four.
func trainsByRatio(s api.TrainShop) [4]map[string][]api.Train {
	var known [4]map[string][]api.Train
	for i := range known {
		known[i] = map[string][]api.Train{}
		for _, one := range allTrains(s, i+1) {
			r := ratioOf(one).String()
			known[i][r] = append(known[i][r], one)
		}
	}
	return known
}

// expectFewestOf fails unless Fewest returns the trains with the ratio that have the fewest pairs.
func expectFewestOf(t *testing.T, s api.TrainShop, known [4]map[string][]api.Train, want api.Ratio) {
	t.Helper()
	for _, trains := range known {
		if exact := trains[rational(want).String()]; len(exact) > 0 {
			expectTrains(t, s, want, exact...)
			return
		}
	}
	expectFewestError(t, s, want, api.ErrNone)
}

// P1.8

func TestNoTrainHasAMissingPrime(t *testing.T) {
	for _, s := range shops() {
		for _, want := range wantedRatios() {
			primes, e := train.Missing(s, want)
			if e != api.OK {
				t.Fatal(s, want, e)
			}
			if len(primes) > 0 {
				expectFewestError(t, s, want, api.ErrNone)
			}
		}
	}
}

func TestMissingAgainstAllNumbers(t *testing.T) {
	for _, s := range shops() {
		for _, want := range wantedRatios() {
			expectMissing(t, s, want, missingPrimes(s, want)...)
		}
	}
}

// missingPrimes tries all numbers that can divide one of a ratio.
func missingPrimes(s api.TrainShop, want api.Ratio) []int {
	r := rational(want)
	num, den := int(r.Num().Int64()), int(r.Denom().Int64())
	var list []int
	for p := 2; p <= max(num, den); p++ {
		ofWheels := num%p == 0 && !dividesAny(p, s.Wheels)
		ofPinions := den%p == 0 && !dividesAny(p, s.Pinions)
		if (ofWheels || ofPinions) && isPrime(p) {
			list = append(list, p)
		}
	}
	return list
}

func isPrime(n int) bool {
	for p := 2; p*p <= n; p++ {
		if n%p == 0 {
			return false
		}
	}
	return n > 1
}

func dividesAny(p int, list []int) bool {
	return slices.ContainsFunc(list, func(n int) bool { return n%p == 0 })
}

// P1.10

func swapped(t api.Train) api.Train { return oneTrain(t.Pinions, t.Wheels) }

func TestTheOtherWayRound(t *testing.T) {
	for _, s := range shops() {
		for _, want := range wantedRatios() {
			there, e := train.Fewest(s, want)
			back, f := train.Fewest(shop(s.Pinions, s.Wheels), ratio(want.Den, want.Num))
			if e != f {
				t.Fatalf("%v, %v: %v, but %v the other way round", s, want, e, f)
			}
			exchanged := []api.Train{}
			for _, one := range there {
				exchanged = append(exchanged, swapped(one))
			}
			slices.SortFunc(exchanged, compareTrains)
			if !slices.EqualFunc(exchanged, back, sameTrain) {
				t.Errorf("%v, %v: %v, but %v the other way round", s, want, there, back)
			}
		}
	}
}

// R4

func TestFewestSharesNoMemory(t *testing.T) {
	s := shop(upTo(33, 44), upTo(33, 44))
	before := cloneShop(s)
	got, e := train.Fewest(s, ratio(1, 1))
	if e != api.OK || len(got) != 12 {
		t.Fatal(got, e)
	}
	for i := range got {
		expectOwnMemory(t, got, i)
	}
	if !sameShop(s, before) {
		t.Errorf("the shop was changed to %v", s)
	}
	s.Wheels[0], s.Pinions[0] = 7, 7
	for _, one := range got {
		if slices.Contains(one.Wheels, 7) || slices.Contains(one.Pinions, 7) {
			t.Errorf("%v was changed with the shop", one)
		}
	}
}

// expectOwnMemory writes into one train, also beyond its lists, and fails if another one changes.
func expectOwnMemory(t *testing.T, l []api.Train, i int) {
	t.Helper()
	var before []api.Train
	for _, one := range l {
		before = append(before, oneTrain(slices.Clone(one.Wheels), slices.Clone(one.Pinions)))
	}
	l[i].Wheels[0]++
	if !slices.Equal(l[i].Pinions, before[i].Pinions) {
		t.Errorf("the lists of train %d share memory", i)
	}
	l[i].Pinions[0]++
	_, _ = append(l[i].Wheels, 0), append(l[i].Pinions, 0)
	for j, one := range l {
		if j != i && !sameTrain(one, before[j]) {
			t.Errorf("the trains %d and %d share memory", i, j)
		}
	}
	l[i] = before[i]
}

func TestTrainsWithOneListShareNoMemory(t *testing.T) {
	onePinions := shop(counts(24, 36, 48, 72), counts(6, 7)) // 24 * 72 = 36 * 48
	oneWheels := shop(counts(36, 42), counts(6, 8, 12, 16))  // 6 * 16 = 8 * 12
	for _, c := range []struct {
		shop api.TrainShop
		want api.Ratio
	}{{onePinions, ratio(48, 1)}, {onePinions, ratio(1728, 49)}, {oneWheels, ratio(63, 4)}, {oneWheels, ratio(27, 2)}} {
		got, e := train.Fewest(c.shop, c.want)
		if e != api.OK || len(got) < 2 {
			t.Fatal(c, got, e)
		}
		for i := range got {
			expectOwnMemory(t, got, i)
		}
	}
}

func TestMissingSharesNoMemory(t *testing.T) {
	s := exampleShop()
	got, _ := train.Missing(s, ratio(7, 11))
	got[0], got[1] = 1, 1
	if !sameShop(s, exampleShop()) {
		t.Errorf("the shop was changed to %v", s)
	}
	expectMissing(t, s, ratio(7, 11), 7, 11)
}
