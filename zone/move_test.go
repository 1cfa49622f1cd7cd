package zone_test

import (
	"slices"
	"testing"

	"turret/api"
)

// P10.9

func TestMoveOfExamples(t *testing.T) {
	nights := spans(span(35000, 35300), span(35400, 40000))
	expectMove(t, office(), -300, 200, numbers(597, 583), nights, change(35240, -200), change(35400, -300))
}

// nightly returns so many nights from an instant on, each of so many seconds, an hour apart.
func nightly(first, many, seconds int) []api.Span {
	var list []api.Span
	for i := range many {
		low := first + i*api.Hour
		list = append(list, span(low, low+seconds-1))
	}
	return list
}

// steps returns changes at the first instants of nights.
func steps(nights []api.Span, offsets ...int) []api.ZoneChange {
	var list []api.ZoneChange
	for i, offset := range offsets {
		list = append(list, change(nights[i].Low, offset))
	}
	return list
}

func TestMoveToTheSameOffset(t *testing.T) {
	full := many(api.MaxZoneChanges)
	for _, nights := range [][]api.Span{nil, nightly(20*api.Day, 1, 5), nightly(20*api.Day, 30, 5)} {
		expectMove(t, office(), 0, 1, nil, nights)
		expectMove(t, town(43200), 43200, 43200, nil, nights)
		expectMove(t, railway(), 0, 60, numbers(597), nights)
		expectMove(t, full, lastOffset(full), 60, nil, nights)
		expectMoveError(t, full, lastOffset(full), 60, make([]int, 101), nights, api.ErrLong)
		expectMoveError(t, full, lastOffset(full), 0, nil, nights, api.ErrRange)
	}
	expectMoveError(t, full, lastOffset(full), 60, nil, nightly(12*api.Day, 1, 5), api.ErrRange)
	expectMoveError(t, full, lastOffset(full), 60, nil, nightly(20*api.Day, 31, 5), api.ErrLong)
}

func TestMoveWithinStep(t *testing.T) {
	nights := nightly(1000, 30, 5)
	expectMove(t, office(), 100, 100, nil, nights, steps(nights, 100)...)
	expectMove(t, office(), 100, 101, nil, nights, steps(nights, 100)...)
	expectMove(t, office(), 100, 43200, nil, nights, steps(nights, 100)...)
	expectMove(t, office(), 100, 99, nil, nights, steps(nights, 99, 100)...)
	expectMove(t, office(), -100, 99, nil, nights, steps(nights, -99, -100)...)
	expectMove(t, office(), -100, 50, nil, nights, steps(nights, -50, -100)...)
	expectMove(t, office(), 5, 1, nil, nights, steps(nights, 1, 2, 3, 4, 5)...)
	expectMove(t, office(), -3, 1, nil, nights, steps(nights, -1, -2, -3)...)
	expectMove(t, town(43200), -43200, 43200, nil, nights, steps(nights, 0, -43200)...)
	expectMove(t, town(-43200), 43200, 43199, nil, nights, steps(nights, -1, 43198, 43200)...)
	expectMove(t, town(7, change(500, -5)), 10, 10, nil, nights, steps(nights, 5, 10)...)
}

// The offset is just reached after all nights, or just not.
func TestMoveAsFarAsNightsAllow(t *testing.T) {
	for n := range 9 {
		nights := nightly(1000, n, 5)
		for _, step := range numbers(1, 60, 200) {
			for _, sign := range numbers(-1, 1) {
				var offsets []int
				for i := range n {
					offsets = append(offsets, sign*step*(i+1))
				}
				expectMove(t, office(), sign*step*n, step, nil, nights, steps(nights, offsets...)...)
				expectMoveError(t, office(), sign*(step*n+1), step, nil, nights, api.ErrNone)
			}
		}
	}
}

// There are at most 12 changes, with those of the town.
func TestMoveAsFarAsChangesAllow(t *testing.T) {
	for n := range api.MaxZoneChanges + 1 {
		z := many(n)
		last := lastOffset(z)
		free := api.MaxZoneChanges - n
		nights := nightly(20*api.Day, 30, 5)
		var offsets []int
		for i := range free {
			offsets = append(offsets, last+i+1)
		}
		expectMove(t, z, last+free, 1, nil, nights, steps(nights, offsets...)...)
		expectMove(t, z, last+free, 1, nil, nights[:free], steps(nights, offsets...)...)
		expectMoveError(t, z, last+free+1, 1, nil, nights, api.ErrFull)
		expectMoveError(t, z, last+free+1, 1, nil, nights[:free+1], api.ErrFull)
		expectMoveError(t, z, last+free+1, 1, nil, nights[:free], api.ErrNone)
	}
	// Even if the night would be left out, as its contract never comes.
	expectMoveError(t, many(api.MaxZoneChanges), 0, 60, numbers(-9), nightly(20*api.Day, 1, 5), api.ErrFull)
}

// Nights in which the clocks cannot be changed are left out.
func TestMoveLeavesNightsOut(t *testing.T) {
	nights := spans(span(500, 510), span(545, 650), span(651, 719), span(720, 800), span(900, 1000))
	contracts := numbers(9, 10)
	expectMove(t, office(), -60, 60, contracts, nights[1:], change(720, -60))
	expectMove(t, office(), -60, 60, contracts, nights, change(500, -60))
	expectMove(t, office(), -120, 60, contracts, nights[1:], change(720, -60), change(900, -120))
	expectMove(t, office(), 60, 60, contracts, nights[1:], change(660, 60))
	expectMove(t, office(), 120, 60, contracts, nights[1:], change(660, 60), change(720, 120))
	expectMoveError(t, office(), -60, 60, contracts, nights[1:3], api.ErrNone)
	expectMoveError(t, office(), -180, 60, contracts, nights[1:], api.ErrNone)
	expectMoveError(t, office(), -60, 60, numbers(10, -9), nights, api.ErrNone)
}

// The first nights, or all but the last one, are left out.
func TestMoveThirtyNights(t *testing.T) {
	nights := nightly(1000, 30, 5)
	blocked := numbers(minuteAt(office(), nights[0].Low), minuteAt(office(), nights[28].Low))
	expectMove(t, office(), 60, 60, blocked[:1], nights, steps(nights[1:], 60)...)
	expectMoveError(t, office(), 60, 60, blocked, slices.Concat(nights[:1], nights[28:29]), api.ErrNone)
	expectMove(t, office(), 60, 60, blocked, slices.Concat(nights[:1], nights[28:]), change(nights[29].Low, 60))
}

func TestMoveWithoutNights(t *testing.T) {
	expectMove(t, office(), 0, 1, nil, nil)
	expectMoveError(t, office(), 1, 1, nil, nil, api.ErrNone)
	expectMoveError(t, railway(), -300, 43200, nil, spans(), api.ErrNone)
	expectMoveError(t, many(api.MaxZoneChanges), 0, 43200, nil, nil, api.ErrNone)
}

// Nights can touch, but not overlap.
func TestMoveOfNightsThatTouch(t *testing.T) {
	expectMove(t, office(), 100, 50, nil, spans(span(100, 200), span(201, 300)), change(100, 50), change(201, 100))
	expectMove(t, office(), 100, 50, nil, spans(single(1), single(2), single(3)), change(1, 50), change(2, 100))
	expectMove(t, office(), 100, 50, nil, spans(single(api.MaxTime-1), single(api.MaxTime)), change(api.MaxTime-1, 50), change(api.MaxTime, 100))
	for _, bad := range [][]api.Span{
		{span(100, 200), span(200, 300)},
		{span(100, 200), span(150, 300)},
		{span(100, 200), span(120, 130)},
		{span(100, 200), span(100, 200)},
		{span(100, 200), span(1, 50)},
		{span(100, 200), span(201, 300), span(300, 301)},
		{single(api.MaxTime), single(api.MaxTime)},
	} {
		expectMoveError(t, office(), 100, 50, nil, bad, api.ErrRange)
		expectMoveError(t, office(), 0, 50, nil, bad, api.ErrRange)
	}
}

// moved returns the changes that a walk through all nights makes, instant by instant.
func moved(z api.ZoneTown, offset, step int, contracts []int, nights []api.Span) ([]api.ZoneChange, bool) {
	before := len(z.Changes)
	for _, night := range nights {
		next := lastOffset(z)
		for range step {
			if next < offset {
				next++
			} else if next > offset {
				next--
			}
		}
		if next == lastOffset(z) {
			break
		}
		if at := firstChange(z, next, contracts, night); at != 0 {
			z = later(z, at, next)
		}
	}
	return z.Changes[before:], lastOffset(z) == offset
}

func TestMoveOfTowns(t *testing.T) {
	x := seeded(9)
	leftOut, none := 0, 0
	for range 1500 {
		z := randomTown(x, 4, 1, 500, 120)
		at := max(lastAt(z), 400)
		var nights []api.Span
		for range x.IntN(7) {
			low := at + 1 + x.IntN(100)*x.IntN(2)
			at = low + x.IntN(120)
			nights = append(nights, span(low, at))
		}
		offset, step := lastOffset(z)+from(x, -150, 150), numbers(20, 60, 100, 150)[x.IntN(4)]
		var contracts []int
		for range x.IntN(4) {
			if m := (max(lastAt(z), 400) + from(x, -100, 300)) / 60; comesOnce(z, m) || x.IntN(16) == 0 {
				contracts = append(contracts, m)
			}
		}
		want, reached := moved(z, offset, step, contracts, nights)
		if !reached {
			none++
			expectMoveError(t, z, offset, step, contracts, nights, api.ErrNone)
			continue
		}
		if len(want) > 0 && want[0].At > nights[0].High {
			leftOut++
		}
		expectMove(t, z, offset, step, contracts, nights, want...)
	}
	if leftOut < 30 || none < 50 {
		t.Errorf("only %d leave the first night out, %d do not reach the offset", leftOut, none)
	}
}

func TestErrorsOfMove(t *testing.T) {
	long := make([]int, api.MaxZoneContracts+1)
	for _, z := range goodTowns() {
		first := lastAt(z) + 1
		ends := span(first, first)
		for _, n := range append(wild(), -43201, 43201) {
			expectMoveError(t, z, n, 60, nil, spans(ends), api.ErrRange)
			expectMoveError(t, z, n, 60, long, nightly(1, 31, 5), api.ErrRange)
		}
		for _, step := range append(wild(), -1, 0, 43201) {
			expectMoveError(t, z, 0, step, nil, nil, api.ErrRange)
			expectMoveError(t, z, 43200, step, long, spans(ends, ends), api.ErrRange)
		}
		for _, step := range numbers(1, 43200) {
			expectMoveError(t, z, lastOffset(z), step, long, nil, api.ErrLong)
			expectMoveError(t, z, lastOffset(z), step, long, spans(ends, ends), api.ErrLong)
			expectMoveError(t, z, lastOffset(z), step, nil, nightly(first, 31, 5), api.ErrLong)
			expectMoveError(t, z, lastOffset(z), step, nil, slices.Repeat(spans(ends), 31), api.ErrLong)
			expectMoveError(t, z, lastOffset(z), step, long[1:], slices.Repeat(spans(ends), 30), api.ErrRange)
		}
		bad := spans(span(first+1, first), span(first-1, first), single(first-1), span(0, first), span(first, api.MaxTime+1), single(api.MaxTime+1))
		for _, n := range wild() {
			bad = append(bad, span(n, first), span(first, n), single(n))
		}
		for _, night := range bad {
			for _, offset := range numbers(-43200, lastOffset(z), 43200) {
				expectMoveError(t, z, offset, 60, nil, spans(night), api.ErrRange)
				expectMoveError(t, z, offset, 60, nil, spans(ends, night), api.ErrRange)
			}
		}
	}
}
