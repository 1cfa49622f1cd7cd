package zone_test

import (
	"slices"
	"testing"

	"turret/api"
)

// P10.8

func TestChangeOfExamples(t *testing.T) {
	when := span(35000, 40000)
	expectChange(t, office(), -300, numbers(597, 601), when, 35000)
	expectChange(t, office(), -300, numbers(597, 601, 583), when, 35340)
	expectChange(t, office(), -300, numbers(583, 601, 583, 597), when, 35340)
}

// The first instant is Low, or High, or there is none.
func TestChangeAtTheEndsOfWhen(t *testing.T) {
	contracts := numbers(583)
	expectChange(t, office(), -300, contracts, span(34900, 40000), 34900)
	expectChange(t, office(), -300, contracts, span(34980, 40000), 34980)
	expectChange(t, office(), -300, contracts, span(34981, 40000), 35340)
	expectChange(t, office(), -300, contracts, span(34981, 35340), 35340)
	expectChangeError(t, office(), -300, contracts, span(34981, 35339), api.ErrNone)
	expectChange(t, office(), -300, contracts, single(34980), 34980)
	expectChangeError(t, office(), -300, contracts, single(34981), api.ErrNone)
	expectChange(t, office(), -300, contracts, single(35340), 35340)
	expectChange(t, office(), -300, contracts, span(35341, 35341), 35341)
}

func TestChangeForward(t *testing.T) {
	contracts := numbers(600)
	expectChange(t, office(), 300, contracts, span(35000, 40000), 35000)
	expectChange(t, office(), 300, contracts, span(35700, 40000), 35700)
	expectChange(t, office(), 300, contracts, span(35701, 40000), 36060)
	expectChangeError(t, office(), 300, contracts, span(35701, 36059), api.ErrNone)
	expectChange(t, office(), 1, contracts, span(35999, 40000), 35999)
	expectChange(t, office(), 1, contracts, span(36000, 40000), 36060)
	expectChange(t, office(), 300, numbers(600, 606), span(35701, 40000), 36060)
	expectChange(t, office(), 300, numbers(600, 605), span(35701, 40000), 36360)
	expectChange(t, office(), 300, numbers(605, 610, 600, 615), span(35701, 40000), 36960)
}

// Put back by a minute at its beginning, or within it.
func TestChangeByOneMinute(t *testing.T) {
	expectChange(t, office(), -60, numbers(9, 10), span(480, 2000), 480)
	expectChange(t, office(), -60, numbers(9, 10), span(541, 2000), 720)
	expectChange(t, office(), -60, numbers(10), span(540, 2000), 540)
	expectChange(t, office(), -60, numbers(10), span(600, 2000), 600)
	expectChange(t, office(), -60, numbers(10), span(601, 2000), 720)
	expectChange(t, office(), 60, numbers(10), span(540, 2000), 540)
	expectChange(t, office(), 60, numbers(10), span(541, 2000), 660)
}

func TestChangeWithoutContracts(t *testing.T) {
	expectChange(t, office(), 300, nil, span(1, api.MaxTime), 1)
	expectChange(t, office(), 300, nil, single(api.MaxTime), api.MaxTime)
	expectChange(t, office(), 43200, nil, span(77, 78), 77)
	expectChange(t, railway(), -43200, nil, span(36001, api.MaxTime), 36001)
}

func TestChangeOfManyContracts(t *testing.T) {
	var contracts []int
	for i := range api.MaxZoneContracts {
		contracts = append(contracts, 100+2*i)
	}
	slices.Reverse(contracts)
	expectChange(t, office(), -60, contracts, span(6001, 100000), 6120)
	expectChange(t, office(), -120, contracts, span(6001, 100000), 298*60+180)
	expectChange(t, office(), 120, contracts, span(5881, 100000), 299*60)
	expectChange(t, office(), 120, contracts, span(5880, 100000), 5880)
	expectChangeError(t, office(), 120, contracts, span(5881, 299*60-1), api.ErrNone)
	all := slices.Repeat(numbers(583), api.MaxZoneContracts)
	expectChange(t, office(), -300, all, span(35000, 40000), 35340)
	expectChangeError(t, office(), -300, append(all, 583), span(35000, 40000), api.ErrLong)
}

// Contracts that come twice before: the second time must not come.
func TestChangeOfContractsThatComeTwice(t *testing.T) {
	expectChange(t, back(), 3000, numbers(597), span(36001, 40000), 36001)
	expectChange(t, back(), 3000, numbers(597), span(36120, 40000), 36120)
	expectChangeError(t, back(), 3000, numbers(597), span(36121, 40000), api.ErrNone)
	expectChangeError(t, back(), -3000, numbers(597), span(36001, 40000), api.ErrNone)
	expectChangeError(t, back(), -300, numbers(597), span(36001, 40000), api.ErrNone)
}

// Contracts that never come before: they come after it.
func TestChangeOfContractsThatNeverCome(t *testing.T) {
	expectChange(t, railway(), -300, numbers(597), span(36001, 40000), 36001)
	expectChange(t, railway(), -300, numbers(597), span(36120, 40000), 36120)
	expectChangeError(t, railway(), -300, numbers(597), span(36121, 40000), api.ErrNone)
	expectChangeError(t, railway(), 0, numbers(597), span(36001, 40000), api.ErrNone)
	for _, minute := range append(wild(), -1, api.MaxTime/60+1) {
		expectChangeError(t, office(), 0, numbers(minute), span(1, api.MaxTime), api.ErrNone)
		expectChangeError(t, office(), 0, numbers(5, minute), span(1, 600), api.ErrNone)
	}
}

// Contracts that come in part before, and in one span of too many instants.
func TestChangeOfContractsThatComeInPart(t *testing.T) {
	part := town(0, change(610, 10))
	expectChangeError(t, part, 300, numbers(10), span(611, 2000), api.ErrNone)
	expectChange(t, part, 0, numbers(10), span(611, 2000), 611)
	expectChange(t, part, 0, numbers(10), span(650, 2000), 650)
	expectChangeError(t, part, 0, numbers(10), span(651, 2000), api.ErrNone)

	more := town(0, change(610, -10))
	expectChange(t, more, 0, numbers(10), span(611, 2000), 611)
	expectChange(t, more, 0, numbers(10), span(660, 2000), 660)
	expectChangeError(t, more, 0, numbers(10), span(661, 2000), api.ErrNone)

	// With the clocks put forward, just one instant is right.
	expectChange(t, more, 3000, numbers(10), span(611, 2000), 660)
	expectChange(t, more, 3000, numbers(10), single(660), 660)
	expectChangeError(t, more, 3000, numbers(10), span(611, 659), api.ErrNone)
	expectChangeError(t, more, 3000, numbers(10), span(661, 2000), api.ErrNone)
}

// Minutes that begin before 0, or end after MaxTime, come in part.
func TestChangeOfContractsAtTheEnds(t *testing.T) {
	last := api.MaxTime / 60
	all := span(1, api.MaxTime)
	expectChange(t, office(), 0, numbers(0, last-1), all, 1)
	expectChangeError(t, office(), 0, numbers(0, last), all, api.ErrNone)
	expectChangeError(t, town(-30), 300, numbers(-1), all, api.ErrNone)
	expectChange(t, town(-30), 0, numbers(0), all, 90)
	expectChange(t, office(), 60, numbers(last), all, 1)
	expectChange(t, office(), 60, numbers(last), span(api.MaxTime-60, api.MaxTime), api.MaxTime-60)
	expectChangeError(t, office(), 60, numbers(last), span(api.MaxTime-59, api.MaxTime), api.ErrNone)
	expectChange(t, office(), 43200, numbers(last+718), all, 1)
	expectChangeError(t, office(), 43200, numbers(last+720), all, api.ErrNone)
	expectChange(t, office(), -43200, numbers(last-721), span(api.MaxTime-43259, api.MaxTime), api.MaxTime)
	expectChangeError(t, office(), -43200, numbers(last-720), span(api.MaxTime-43199, api.MaxTime), api.ErrNone)
}

// Change to the offset that counts already: all contracts have to come once without it.
func TestChangeToTheSameOffset(t *testing.T) {
	expectChange(t, office(), 0, numbers(10, 11, 12), span(605, 700), 605)
	expectChange(t, railway(), 0, numbers(594, 600), span(36001, 40000), 36001)
	expectChangeError(t, town(0, change(610, -10)), -10, numbers(10), span(611, 10000), api.ErrNone)
}

func TestChangeAfterChanges(t *testing.T) {
	expectChangeError(t, railway(), 60, nil, span(35999, 40000), api.ErrRange)
	expectChangeError(t, railway(), 60, nil, span(36000, 40000), api.ErrRange)
	expectChange(t, railway(), 60, nil, span(36001, 40000), 36001)
	expectChange(t, town(5, change(1, 6)), 60, nil, span(2, 40000), 2)
	expectChange(t, town(5, change(api.MaxTime-1, 6)), 60, nil, single(api.MaxTime), api.MaxTime)
	expectChangeError(t, town(5, change(api.MaxTime, 6)), 60, nil, single(api.MaxTime), api.ErrRange)
	for n := range api.MaxZoneChanges {
		z := many(n)
		low := lastAt(z) + 1
		expectChange(t, z, 60, nil, span(low, low+100), low)
	}
	full := many(api.MaxZoneChanges)
	expectChangeError(t, full, 60, nil, span(20*api.Day, 30*api.Day), api.ErrFull)
	expectChangeError(t, full, 60, numbers(-9), span(20*api.Day, 30*api.Day), api.ErrFull)
	expectChangeError(t, full, 60, nil, span(12*api.Day, 30*api.Day), api.ErrRange)
	expectChangeError(t, full, 43201, nil, span(20*api.Day, 30*api.Day), api.ErrRange)
	expectChangeError(t, full, 60, make([]int, 101), span(20*api.Day, 30*api.Day), api.ErrLong)
}

// firstChange returns the first instant at which the clocks can be changed, tried one after another; 0 if there is none.
func firstChange(z api.ZoneTown, offset int, contracts []int, when api.Span) int {
	for at := when.Low; at <= when.High; at++ {
		if comesOnce(later(z, at, offset), contracts...) {
			return at
		}
	}
	return 0
}

func TestChangeOfTowns(t *testing.T) {
	x := seeded(7)
	none, low, between := 0, 0, 0
	for i := range 500 {
		start := []int{0, api.MaxTime - 1000}[i%2]
		z := randomTown(x, 6, start+1, start+300+x.IntN(200), 150)
		first := max(lastAt(z), start) + 1 + x.IntN(40)*x.IntN(2)
		when := span(first, first+x.IntN(400))
		offset := lastOffset(z) + from(x, -90, 90)
		var contracts []int
		for range 1 + x.IntN(4) {
			contracts = append(contracts, (when.Low+lastOffset(z)+from(x, -150, 300))/60)
		}
		if x.IntN(4) > 0 {
			contracts = slices.DeleteFunc(contracts, func(m int) bool { return !comesOnce(z, m) })
		}
		switch want := firstChange(z, offset, contracts, when); want {
		case 0:
			none++
			expectChangeError(t, z, offset, contracts, when, api.ErrNone)
		case when.Low:
			low++
			expectChange(t, z, offset, contracts, when, want)
		default:
			between++
			expectChange(t, z, offset, contracts, when, want)
		}
	}
	if none < 50 || low < 50 || between < 50 {
		t.Errorf("only %d have no instant, %d the first one, %d another one", none, low, between)
	}
}

// Close changes: contracts come as the last change makes up for one before it.
func TestChangeOfCloseChanges(t *testing.T) {
	x := seeded(8)
	between := 0
	for range 1500 {
		z := randomTown(x, 8, 600, 660, 40)
		first := max(lastAt(z), 600) + 1
		when := span(first, first+x.IntN(200))
		offset := from(x, -40, 40)
		contracts := numbers(from(x, 9, 12))
		want := firstChange(z, offset, contracts, when)
		if want == 0 {
			expectChangeError(t, z, offset, contracts, when, api.ErrNone)
			continue
		}
		if want > when.Low && want < when.High {
			between++
		}
		expectChange(t, z, offset, contracts, when, want)
	}
	if between < 100 {
		t.Errorf("only %d have an instant between", between)
	}
}

func TestErrorsOfChange(t *testing.T) {
	long := make([]int, api.MaxZoneContracts+1)
	for _, z := range goodTowns() {
		for _, offset := range append(wild(), -43201, 43201) {
			expectChangeError(t, z, offset, nil, span(api.MaxTime, api.MaxTime), api.ErrRange)
			expectChangeError(t, z, offset, long, span(5, 4), api.ErrRange)
		}
		low := lastAt(z) + 1
		bad := spans(span(low+1, low), span(lastAt(z), low), single(lastAt(z)), span(0, low), span(-1, low), span(low, api.MaxTime+1), single(api.MaxTime+1))
		for _, n := range wild() {
			bad = append(bad, span(n, low), span(low, n), single(n))
		}
		for _, when := range bad {
			for _, offset := range numbers(-43200, 0, 43200) {
				expectChangeError(t, z, offset, long, when, api.ErrLong)
				expectChangeError(t, z, offset, long[1:], when, api.ErrRange)
				expectChangeError(t, z, offset, nil, when, api.ErrRange)
			}
		}
	}
}
