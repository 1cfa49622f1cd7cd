package zone_test

import (
	"testing"

	"turret/api"
)

// P10.6

func TestBeforeOfExamples(t *testing.T) {
	expectBefore(t, back(), 597, office(), 600, false, true)
}

// The deadline comes twice: 35820 or 36120.
func TestBeforeOfDeadlinesThatComeTwice(t *testing.T) {
	expectBefore(t, back(), 597, office(), 596, true, true)
	expectBefore(t, back(), 597, office(), 597, false, true)
	expectBefore(t, back(), 597, office(), 601, false, true)
	expectBefore(t, back(), 597, office(), 602, false, false)
	expectBefore(t, back(), 597, town(1), 597, false, true)
	expectBefore(t, back(), 597, town(60), 597, true, true)
	expectBefore(t, back(), 597, town(59), 597, false, true)
}

// It was done from 35820 to 35879, or from 36120 to 36179.
func TestBeforeOfWhatWasDoneTwice(t *testing.T) {
	expectBefore(t, office(), 597, back(), 597, false, false)
	expectBefore(t, office(), 598, back(), 597, false, true)
	expectBefore(t, office(), 602, back(), 597, false, true)
	expectBefore(t, office(), 603, back(), 597, true, true)
	expectBefore(t, back(), 597, back(), 597, false, true)
	expectBefore(t, back(), 599, back(), 595, false, true)
	expectBefore(t, back(), 600, back(), 599, true, true)
	expectBefore(t, back(), 595, back(), 594, true, true)
}

// What is done at the very instant of the deadline is not before it.
func TestBeforeAtTheDeadline(t *testing.T) {
	expectBefore(t, office(), 10, town(60), 10, true, true)
	expectBefore(t, office(), 10, town(59), 10, false, true)
	expectBefore(t, office(), 10, town(1), 10, false, true)
	expectBefore(t, office(), 10, office(), 10, false, false)
	expectBefore(t, office(), 10, office(), 9, true, true)
	expectBefore(t, office(), 10, town(-1), 9, false, true)
	expectBefore(t, office(), 10, town(-59), 9, false, true)
	expectBefore(t, office(), 10, town(-60), 9, false, false)
}

// A deadline that has begun before 0 is at 0; what comes at MaxTime only is done there.
func TestBeforeAtTheEnds(t *testing.T) {
	expectBefore(t, town(30), 0, office(), 0, false, false)
	expectBefore(t, town(-30), 0, office(), 0, false, true)
	expectBefore(t, town(-30), -1, office(), 0, false, false)
	expectBefore(t, town(-30), 0, town(-30), -1, true, true)
	last := api.MaxTime / 60
	expectBefore(t, office(), last, office(), last-1, true, true)
	expectBefore(t, office(), last, office(), last, false, false)
	expectBefore(t, office(), last, town(60), last, true, true)
	expectBefore(t, office(), last, town(59), last, false, true)
}

func TestBeforeOfTowns(t *testing.T) {
	x := seeded(5)
	seen := map[[2]bool]int{}
	for range 3000 {
		a, b := randomTown(x, 6, 1, 1000, 300), randomTown(x, 6, 1, 1000, 300)
		deadline, done := from(x, -3, 20), from(x, -3, 20)
		due, did := comes(a, deadline), instants(comes(b, done))
		if len(due) == 0 || len(did) == 0 {
			expectBeforeError(t, a, deadline, b, done, api.ErrNone)
			continue
		}
		surely, possibly := true, false
		for _, s := range due {
			for _, at := range did {
				surely = surely && at < s.Low
				possibly = possibly || at < s.Low
			}
		}
		seen[[2]bool{surely, possibly}]++
		expectBefore(t, a, deadline, b, done, surely, possibly)
	}
	if seen[[2]bool{true, true}] < 100 || seen[[2]bool{false, true}] < 100 || seen[[2]bool{false, false}] < 100 {
		t.Errorf("seen were only %v", seen)
	}
}

func TestErrorsOfBefore(t *testing.T) {
	expectBeforeError(t, railway(), 597, office(), 5, api.ErrNone)
	expectBeforeError(t, office(), 5, railway(), 597, api.ErrNone)
	expectBeforeError(t, railway(), 595, railway(), 599, api.ErrNone)
	for _, z := range goodTowns() {
		for _, n := range append(wild(), -722, api.MaxTime/60+722) {
			expectBeforeError(t, z, n, office(), 5, api.ErrNone)
			expectBeforeError(t, office(), 5, z, n, api.ErrNone)
			expectBeforeError(t, z, n, z, n, api.ErrNone)
		}
	}
}
