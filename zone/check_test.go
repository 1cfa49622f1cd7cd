package zone_test

import (
	"slices"
	"testing"

	"turret/api"
	"turret/zone"
)

// goodTowns are valid, and have least and greatest values.
func goodTowns() []api.ZoneTown {
	list := []api.ZoneTown{office(), railway(), back(), many(1), many(11), many(12)}
	for _, offset := range numbers(-43200, -43199, -1, 1, 43199, 43200) {
		list = append(list, town(offset), town(0, change(1, offset)), town(offset, change(api.MaxTime, -offset)))
	}
	return append(list, town(3, change(1, 4), change(2, 5)), town(0, change(api.MaxTime-1, 1), change(api.MaxTime, 2)), town(9, change(50, 9)))
}

// badTowns are not valid.
func badTowns() []api.ZoneTown {
	list := []api.ZoneTown{many(13), many(14), many(100)}
	for _, offset := range append(wild(), -43201, 43201) {
		list = append(list, town(offset), town(0, change(1, offset)), town(offset, change(5, 0)), town(0, change(5, offset), change(6, 0)), town(0, change(5, 0), change(6, offset)))
	}
	for _, at := range append(wild(), -1, 0, api.MaxTime+1) {
		list = append(list, town(0, change(at, 0)), town(0, change(at, 5), change(600, 7)), town(0, change(600, 5), change(at, 7)))
	}
	for _, at := range numbers(1, 2, 599, 600) {
		list = append(list, town(0, change(600, 5), change(at, 7)), town(0, change(1, 1), change(600, 5), change(at, 7), change(1000, 0)))
	}
	return append(list, town(0, change(api.MaxTime, 0), change(api.MaxTime, 1)), town(0, change(5, 5), change(5, 5)))
}

// P10.1

func TestCheckAcceptsTowns(t *testing.T) {
	for _, z := range goodTowns() {
		if e := zone.Check(z); e != api.OK {
			t.Errorf("Check(%v) = %v", z, e)
		}
	}
}

// The errors of towns come first, whatever else is wrong.
func TestCheckRejectsTowns(t *testing.T) {
	good := railway()
	for _, z := range badTowns() {
		if e := zone.Check(z); e != api.ErrArg {
			t.Errorf("Check(%v) = %v", z, e)
		}
		expectOddError(t, z, api.ErrArg)
		for _, n := range append(wild(), 0, 597, -1) {
			expectSaysError(t, z, n, api.ErrArg)
			expectMeansError(t, z, n, api.ErrArg)
			for _, s := range spans(span(0, 100), span(n, 0), span(0, n), single(n)) {
				for _, both := range [][2]api.ZoneTown{{z, good}, {good, z}, {z, z}} {
					expectHandsError(t, both[0], both[1], n, 0, s, api.ErrArg)
					expectHandsError(t, both[0], both[1], 0, n, s, api.ErrArg)
					expectBeforeError(t, both[0], n, both[1], 597, api.ErrArg)
					expectBeforeError(t, both[0], 597, both[1], n, api.ErrArg)
					expectArriveError(t, both[0], n, s, both[1], api.ErrArg)
				}
				for _, many := range numbers(0, 1, 101) {
					expectChangeError(t, z, n, make([]int, many), s, api.ErrArg)
					expectMoveError(t, z, n, 5, make([]int, many), spans(s), api.ErrArg)
					expectMoveError(t, z, 0, n, make([]int, many), slices.Repeat(spans(s), 31), api.ErrArg)
				}
			}
		}
	}
}

// R3, R4

func TestNilAndEmpty(t *testing.T) {
	empty := api.ZoneTown{Offset: 60, Changes: changes()}
	if e := zone.Check(empty); e != api.OK {
		t.Errorf("Check(%v) = %v", empty, e)
	}
	expectSays(t, empty, 5, 0, 65)
	expectMeans(t, empty, 1, span(0, 59))
	expectOdd(t, empty, nil, nil)
	expectChange(t, empty, 0, numbers(), span(1, 9), 1)
	expectMove(t, empty, 60, 1, numbers(), spans())
	expectMove(t, empty, 0, 60, numbers(), spans(span(3, 9)), change(3, 0))
}

// spare returns a list with something behind its end.
func spare[E any](list []E, behind E) []E { return append(slices.Clone(list), behind)[:len(list)] }

func TestArgumentsAreNotChanged(t *testing.T) {
	list := changes(change(500, -60), change(1000, 0), change(1001, 30), change(3000, -30))
	given := spare(list, change(7777, 7))
	z := town(0, given...)
	contracts := numbers(900, 70, 70, -5, 80)
	minutes := spare(contracts, 777)
	nights := spans(span(4000, 4100), span(4200, 4200), span(5000, 6000), span(6001, 60000))
	when := spare(nights, single(77))

	zone.Check(z)
	zone.Says(z, 1000)
	zone.Means(z, 9)
	zone.Odd(z)
	zone.Hands(z, z, 5, 5, span(0, 4000))
	zone.Before(z, 9, z, 8)
	zone.Arrive(z, 9, span(0, 5000), z)
	zone.Change(z, 300, minutes, when[2])
	zone.Change(z, 300, minutes[:2], when[2])
	zone.Move(z, 300, 100, minutes, when)
	zone.Move(z, 300, 100, minutes[:3], when)
	if !slices.Equal(given[:5], append(list, change(7777, 7))) || !slices.Equal(minutes[:6], append(contracts, 777)) || !slices.Equal(when[:5], append(nights, single(77))) {
		t.Errorf("the arguments became %v, %v, %v", given[:5], minutes[:6], when[:5])
	}
}

func TestResultsAreNew(t *testing.T) {
	given := spare(changes(change(500, -60), change(1000, 0)), change(7777, 7))
	z := town(0, given...)
	nights := spans(span(4000, 4100), span(4200, 4200))
	for _, offset := range numbers(0, 100, 150) {
		moved, e := zone.Move(z, offset, 100, nil, nights)
		if e != api.OK {
			t.Fatalf("Move(%v, %d, 100, %v) = %v", z, offset, nights, e)
		}
		moved = append(moved, change(1, 1))
		for i := range moved {
			moved[i] = change(-1, -1)
		}
	}
	twice, never, _ := zone.Odd(town(0, change(600, -300), change(1200, 0)))
	for i := range twice {
		twice[i] = single(-1)
	}
	if !slices.Equal(never, nil) && never[0] == single(-1) {
		t.Errorf("Odd returns %v and %v", twice, never)
	}
	if want := changes(change(500, -60), change(1000, 0), change(7777, 7)); !slices.Equal(given[:3], want) {
		t.Errorf("the changes became %v", given[:3])
	}
}

// P1

func TestAnyArguments(t *testing.T) {
	towns := append(goodTowns(), badTowns()[:40]...)
	all := append(wild(), -43201, -1, 0, 1, 719, 720, 36000, 86400, 86401, api.MaxTime, api.MaxTime+1)
	for i, z := range towns {
		other := towns[(i*7+3)%len(towns)]
		for _, n := range all {
			zone.Says(z, n)
			zone.Means(z, n)
			for _, m := range all {
				zone.Before(z, n, other, m)
				for _, s := range spans(span(n, m), span(1, 20000), single(m)) {
					zone.Hands(z, other, n, m, s)
					zone.Arrive(z, n, s, other)
					zone.Change(z, 60, numbers(n, m), s)
					zone.Change(z, n, numbers(m), s)
					zone.Move(z, n, m, numbers(n), spans(s, single(n)))
					zone.Move(z, 60, 7, numbers(n, m), spans(s, span(20001, m)))
				}
			}
		}
	}
}
