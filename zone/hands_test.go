package zone_test

import (
	"testing"

	"turret/api"
)

// P10.5

func TestHandsOfTowns(t *testing.T) {
	near := span(35000, 37000)
	expectHands(t, railway(), office(), 594, 599, near, span(35940, 35999))
	expectHands(t, railway(), office(), 600, 600, near, span(36000, 36059))
	expectHandsError(t, railway(), office(), 594, 594, near, api.ErrNone)
	expectHandsError(t, railway(), office(), 595, 600, near, api.ErrNone)
	expectHands(t, office(), railway(), 599, 594, near, span(35940, 35999))
	expectHandsError(t, office(), railway(), 594, 599, near, api.ErrNone)
	expectHands(t, back(), office(), 597, 597, near, span(35820, 35879))
	expectHands(t, back(), office(), 597, 602, near, span(36120, 36179))
	expectHands(t, back(), back(), 597, 597, near, span(35820, 35879), span(36120, 36179))
	expectHands(t, back(), back(), 597, 597, span(35870, 36120), span(35870, 35879), single(36120))
	expectHandsError(t, back(), back(), 597, 597, span(35880, 36119), api.ErrNone)
}

// Two hands whose minutes begin at other instants.
func TestHandsOfSeconds(t *testing.T) {
	a, b := office(), town(70)
	expectHands(t, a, b, 10, 11, span(0, 3600), span(600, 649))
	expectHands(t, a, b, 10, 12, span(0, 3600), span(650, 659))
	expectHandsError(t, a, b, 10, 10, span(0, 3600), api.ErrNone)
	expectHandsError(t, a, b, 10, 13, span(0, 3600), api.ErrNone)
}

// Both ends of what a hand shows, and of near.
func TestHandsInADay(t *testing.T) {
	expectHands(t, office(), office(), 0, 0, span(0, api.Day), span(0, 59), span(43200, 43259), single(86400))
	expectHands(t, office(), office(), 719, 719, span(0, api.Day), span(43140, 43199), span(86340, 86399))
	expectHands(t, office(), office(), 0, 0, span(59, 59+api.Day), single(59), span(43200, 43259), span(86400, 86459))
	expectHands(t, office(), office(), 0, 0, single(0), single(0))
	expectHandsError(t, office(), office(), 719, 0, single(0), api.ErrNone)
	end := api.MaxTime
	expectHands(t, office(), office(), 0, 0, single(end), single(end))
	expectHands(t, office(), office(), 719, 719, span(end-100, end), span(end-60, end-1))
	expectHands(t, office(), town(43200), 0, 0, span(end-api.Day, end), span(end-86400, end-86341), span(end-43200, end-43141), single(end))
	expectHands(t, office(), town(0, change(end, 60)), 0, 1, span(end-100, end), single(end))
}

// Before the noon of the day 0 the hands stand before 12.
func TestHandsBeforeTheFirstNoon(t *testing.T) {
	expectHands(t, town(-60), office(), 719, 0, span(0, 100), span(0, 59))
	expectHands(t, town(-60), office(), 0, 1, span(0, 100), span(60, 100))
	expectHands(t, town(-1), office(), 719, 0, span(0, 100), single(0))
	expectHands(t, town(-1), town(-61), 0, 719, span(0, 1000), span(1, 60))
	expectHands(t, office(), town(-43200), 0, 0, span(0, 50000), span(0, 59), span(43200, 43259))
	expectHands(t, office(), town(-43199), 0, 0, span(0, 50000), span(0, 58), span(43200, 43258))
	expectHands(t, town(-1), town(43199), 719, 719, span(0, 50000), single(0), span(43141, 43200))
}

// A change inside a minute, and one to the offset that counts already.
func TestHandsAtChanges(t *testing.T) {
	expectHands(t, town(0, change(610, -10)), office(), 10, 10, span(0, 2000), span(600, 659))
	expectHands(t, town(0, change(610, -10)), office(), 10, 11, span(0, 2000), span(660, 669))
	expectHands(t, town(0, change(610, -11)), office(), 10, 10, span(0, 2000), span(600, 609), span(611, 659))
	expectHands(t, town(0, change(610, 0)), town(0, change(620, 0), change(621, 0)), 10, 10, span(0, 2000), span(600, 659))
	expectHands(t, town(0, change(610, 43200)), office(), 10, 10, span(0, 2000), span(600, 659))
	expectHands(t, town(0, change(600, 60)), town(0, change(600, -60)), 11, 9, span(0, 2000), span(600, 659))
}

// hand returns what a minute hand shows.
func hand(z api.ZoneTown, t int) int {
	m := minuteAt(z, t)
	for m < 0 {
		m += 720
	}
	return m % 720
}

func TestHandsOfManyTowns(t *testing.T) {
	x := seeded(4)
	some, none := 0, 0
	for i := range 250 {
		start := []int{0, api.MaxTime - 100000}[i%2]
		offset := numbers(200, 43200)[i/2%2]
		a, b := randomTown(x, 12, start+1, start+4000, offset), randomTown(x, 12, start+1, start+4000, offset)
		low := start + x.IntN(4000)
		near := span(low, low+numbers(100, 3000, api.Day)[x.IntN(3)])
		shown := from(x, near.Low, min(near.High, near.Low+4000))
		first, second := hand(a, shown), (hand(b, shown)+numbers(0, 0, 0, 719)[x.IntN(4)])%720
		var want []api.Span
		for t := near.Low; t <= near.High; t++ {
			if hand(a, t) == first && hand(b, t) == second {
				want = add(want, t)
			}
		}
		if len(want) == 0 {
			none++
			expectHandsError(t, a, b, first, second, near, api.ErrNone)
			continue
		}
		some++
		expectHands(t, a, b, first, second, near, want...)
	}
	if some < 100 || none < 20 {
		t.Errorf("only %d were shown, %d not", some, none)
	}
}

func TestErrorsOfHands(t *testing.T) {
	near := span(0, api.Day)
	for _, z := range goodTowns() {
		for _, n := range append(wild(), -1, 720) {
			for _, s := range spans(near, span(5, 4)) {
				expectHandsError(t, z, office(), n, 0, s, api.ErrRange)
				expectHandsError(t, office(), z, 0, n, s, api.ErrRange)
				expectHandsError(t, z, z, n, n, s, api.ErrRange)
			}
		}
		bad := spans(span(0, api.Day+1), span(5, 4), span(-1, 5), single(-1), span(api.MaxTime, api.MaxTime+1), single(api.MaxTime+1), span(1, api.MaxTime), span(api.MaxTime-api.Day-1, api.MaxTime))
		for _, n := range wild() {
			bad = append(bad, span(n, 100), span(100, n), single(n))
		}
		for _, s := range bad {
			expectHandsError(t, z, office(), 0, 719, s, api.ErrRange)
			expectHandsError(t, office(), z, 719, 0, s, api.ErrRange)
		}
	}
}
