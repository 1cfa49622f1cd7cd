package zone_test

import (
	"slices"
	"testing"

	"turret/api"
	"turret/zone"
)

// P10.10

func TestEachInstantHasItsMinute(t *testing.T) {
	x := seeded(20)
	for i := range 60 {
		start := []int{0, api.MaxTime - 2000, 1000000}[i%3]
		z := randomTown(x, 12, start+1, start+2000, numbers(300, 43200)[i%2])
		minutes := map[int][]api.Span{}
		low, high := floor(start-43200, 60), floor(start+2000+43200, 60)
		for m := low; m <= high; m++ {
			minutes[m], _ = zone.Means(z, m)
			if !apart(minutes[m]) {
				t.Errorf("Means(%v, %d) = %v", z, m, minutes[m])
			}
		}
		for range 20 {
			at := from(x, start, start+2000)
			day, second, _ := zone.Says(z, at)
			for m := low; m <= high; m++ {
				if has(minutes[m], at) != (m == day*1440+second/60) {
					t.Fatalf("%v: at %d the day %d, second %d; Means of %d is %v", z, at, day, second, m, minutes[m])
				}
			}
		}
	}
}

// P10.11

func TestPutBack(t *testing.T) {
	x := seeded(21)
	for range 500 {
		by := from(x, 2, 720)
		if x.IntN(2) == 0 {
			by = from(x, 2, 9)
		}
		before := from(x, -43200+60*by, 43200)
		minute := from(x, 750, 3000)
		at := minute*60 - before
		z := town(before, change(at, before-60*by))
		had := 0 // whole minutes that had come before
		if at >= 60*by {
			had = by
		} else {
			had = (at + 59) / 60
		}
		expectOdd(t, z, spans(span(minute-had, minute-1)), nil)
	}
	expectOdd(t, town(0, change(120, -300)), spans(span(0, 1)), nil)
	expectOdd(t, town(0, change(300, -300)), spans(span(0, 4)), nil)
	expectOdd(t, town(0, change(60, -300)), spans(single(0)), nil)
}

// Put back by one minute, this minute comes in one span.
func TestPutBackByOneMinute(t *testing.T) {
	x := seeded(22)
	for range 200 {
		before := from(x, -43140, 43200)
		minute := from(x, 750, 3000)
		at := minute*60 - before
		z := town(before, change(at, before-60))
		expectOdd(t, z, nil, nil)
		expectMeans(t, z, minute-1, span(max(0, at-60), at+59))
	}
	expectMeans(t, town(0, change(600, -60)), 9, span(540, 659))
}

func TestPutForward(t *testing.T) {
	x := seeded(23)
	for range 500 {
		by := from(x, 1, numbers(3, 720)[x.IntN(2)])
		before := from(x, -43200, 43200-60*by)
		minute := from(x, 750, 3000)
		z := town(before, change(minute*60-before, before+60*by))
		expectOdd(t, z, nil, spans(span(minute, minute+by-1)))
		expectMeansError(t, z, minute, api.ErrNone)
		expectMeansError(t, z, minute+by-1, api.ErrNone)
	}
}

func TestNoOddMinuteWithoutChanges(t *testing.T) {
	x := seeded(24)
	for range 200 {
		expectOdd(t, town(from(x, -43200, 43200)), nil, nil)
	}
}

// P10.12

// broken reports whether a minute of contracts does not come in one span of 60 instants.
func broken(z api.ZoneTown, contracts []int) bool {
	return slices.ContainsFunc(contracts, func(minute int) bool {
		l, e := zone.Means(z, minute)
		return e != api.OK || len(l) != 1 || l[0].High-l[0].Low != 59
	})
}

// randomContracts returns contracts near a minute, mostly those that come once.
func randomContracts(x interface{ IntN(int) int }, z api.ZoneTown, near int) []int {
	var contracts []int
	for range x.IntN(12) {
		contracts = append(contracts, near-5+x.IntN(20))
	}
	if x.IntN(8) > 0 {
		contracts = slices.DeleteFunc(contracts, func(m int) bool { return broken(z, []int{m}) })
	}
	return contracts
}

func TestNoContractIsBrokenByAChange(t *testing.T) {
	x := seeded(25)
	found, waited := 0, 0
	for range 300 {
		z := randomTown(x, 11, 1, 20000, 2000)
		low := max(lastAt(z), 10000) + 1 + x.IntN(100)
		when := span(low, low+x.IntN(3000))
		contracts := randomContracts(x, z, floor(low+lastOffset(z), 60))
		offset := lastOffset(z) + from(x, -1000, 1000)
		at, e := zone.Change(z, offset, contracts, when)
		until := at
		switch e {
		case api.OK:
			found++
			if broken(later(z, at, offset), contracts) || at < when.Low || at > when.High {
				t.Errorf("Change(%v, %d, %v, %v) = %d", z, offset, contracts, when, at)
			}
		case api.ErrNone:
			until = when.High + 1
		default:
			t.Fatalf("Change(%v, %d, %v, %v) = %v", z, offset, contracts, when, e)
		}
		if until > when.Low {
			waited++
		}
		for earlier := when.Low; earlier < until; earlier++ {
			if !broken(later(z, earlier, offset), contracts) {
				t.Fatalf("Change(%v, %d, %v, %v) = %d, %v; it is possible at %d", z, offset, contracts, when, at, e, earlier)
			}
		}
	}
	if found < 100 || waited < 100 {
		t.Errorf("only %d could be changed, %d not at once", found, waited)
	}
}

func TestNoContractIsBrokenByAMove(t *testing.T) {
	x := seeded(26)
	several := 0
	for range 2000 {
		z := randomTown(x, 5, 1, 5000, 600)
		nights := nightly(max(lastAt(z), 3000)+1, x.IntN(31), 1+x.IntN(1200))
		contracts := randomContracts(x, z, floor(nightly(lastAt(z), 1, 1)[0].Low+lastOffset(z), 60))
		offset, step := lastOffset(z)+from(x, -900, 900), from(x, 100, 700)
		list, e := zone.Move(z, offset, step, contracts, nights)
		if e != api.OK {
			continue
		}
		night := -1
		for _, c := range list {
			by := c.Offset - lastOffset(z)
			z = later(z, c.At, c.Offset)
			now := slices.IndexFunc(nights, func(s api.Span) bool { return s.Low <= c.At && c.At <= s.High })
			if broken(z, contracts) || now <= night || by > step || by < -step {
				t.Errorf("%v, %d, %d, %v, %v: Move returns %v", z, offset, step, contracts, nights, list)
			}
			night = now
		}
		if lastOffset(z) != offset {
			t.Errorf("%v, %d, %d, %v, %v: Move returns %v", z, offset, step, contracts, nights, list)
		}
		if len(list) > 1 {
			several++
		}
	}
	if several < 200 {
		t.Errorf("only %d moves had several changes", several)
	}
}

// P10.13

func TestWhatSurelyWasPossiblyWas(t *testing.T) {
	x := seeded(27)
	for range 3000 {
		a, b := randomTown(x, 12, 1, 2000, 600), randomTown(x, 12, 1, 2000, 600)
		deadline, done := from(x, -12, 45), from(x, -12, 45)
		if surely, possibly, e := zone.Before(a, deadline, b, done); surely && !possibly || e != api.OK && (surely || possibly) {
			t.Errorf("Before(%v, %d, %v, %d) = %v, %v, %v", a, deadline, b, done, surely, possibly, e)
		}
	}
}

func TestMinutesInATownWithoutChanges(t *testing.T) {
	x := seeded(28)
	for range 1000 {
		z := town(from(x, -43200, 43200))
		first := floor(z.Offset, 60)
		done := from(x, first, (api.MaxTime+z.Offset)/60-1)
		if x.IntN(2) == 0 {
			done = from(x, first, first+3)
		}
		later := from(x, done+1, min(done+1+x.IntN(1000), (api.MaxTime+z.Offset)/60))
		expectBefore(t, z, later, z, done, true, true)
		expectBefore(t, z, done+1, z, done, true, true)
		expectBefore(t, z, done, z, later, false, false)
	}
}

// P10.14

func TestTrainsArrive(t *testing.T) {
	x := seeded(29)
	for i := range 400 {
		start := []int{0, api.MaxTime - 100000}[i%2]
		offset := numbers(600, 43200)[i/2%2]
		a, b := randomTown(x, 12, start+1, start+3000, offset), randomTown(x, 12, start+1, start+3000, offset)
		leave := from(x, start, start+3000)
		low := x.IntN(86401)
		run := span(low, from(x, low, min(api.MaxZoneRun, low+3000)))
		minutes, e := zone.Arrive(a, minuteAt(a, leave), run, b)
		if e != api.OK || !apart(minutes) {
			t.Fatalf("Arrive(%v, %d, %v, %v) = %v, %v", a, minuteAt(a, leave), run, b, minutes, e)
		}
		for range 50 {
			at := leave + from(x, run.Low, run.High)
			if at <= api.MaxTime && !has(minutes, minuteAt(b, at)) {
				t.Fatalf("Arrive(%v, %d, %v, %v) = %v; a train arrives at %d", a, minuteAt(a, leave), run, b, minutes, at)
			}
		}
	}
}
