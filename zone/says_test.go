package zone_test

import (
	"testing"

	"turret/api"
	"turret/zone"
)

// P10.2

func TestSaysOfExamples(t *testing.T) {
	expectSays(t, railway(), 35999, 0, 35699)
	expectSays(t, railway(), 36000, 0, 36000)
	// Example 9 of those across the chapters.
	expectSays(t, back(), 36000, 0, 35700)
}

func TestSaysBeforeTheFirstNoon(t *testing.T) {
	expectSays(t, office(), 0, 0, 0)
	expectSays(t, town(-1), 0, -1, 86399)
	expectSays(t, town(-1), 1, 0, 0)
	expectSays(t, town(-300), 0, -1, 86100)
	expectSays(t, town(-300), 299, -1, 86399)
	expectSays(t, town(-300), 300, 0, 0)
	expectSays(t, town(-43200), 0, -1, 43200)
	expectSays(t, town(-43200), 43199, -1, 86399)
	expectSays(t, town(-43200), 43200, 0, 0)
	expectSays(t, town(0, change(1, -43200)), 1, -1, 43201)
}

func TestSaysAtNoons(t *testing.T) {
	expectSays(t, office(), 86399, 0, 86399)
	expectSays(t, office(), 86400, 1, 0)
	expectSays(t, town(43200), 43199, 0, 86399)
	expectSays(t, town(43200), 43200, 1, 0)
	expectSays(t, town(7), 86393, 1, 0)
	expectSays(t, office(), 5*api.Day+77, 5, 77)
}

func TestSaysAtTheEnd(t *testing.T) {
	expectSays(t, office(), api.MaxTime-1, 36524, 86399)
	expectSays(t, office(), api.MaxTime, 36525, 0)
	expectSays(t, town(43200), api.MaxTime, 36525, 43200)
	expectSays(t, town(-43200), api.MaxTime, 36524, 43200)
	last := town(5, change(api.MaxTime, -1))
	expectSays(t, last, api.MaxTime-1, 36525, 4)
	expectSays(t, last, api.MaxTime, 36524, 86399)
}

// Just before a change the offset before counts, at it the one after.
func TestSaysAtChanges(t *testing.T) {
	z := town(10, change(1, 20), change(2, 30), change(50, 30), change(100, -40), change(101, 0))
	for at, second := range map[int]int{0: 10, 1: 21, 2: 32, 3: 33, 49: 79, 50: 80, 51: 81, 99: 129, 100: 60, 101: 101, 102: 102} {
		expectSays(t, z, at, 0, second)
	}
}

func TestSaysOfManyChanges(t *testing.T) {
	z := many(api.MaxZoneChanges)
	for i, c := range z.Changes {
		expectSays(t, z, c.At, i+1, c.Offset)
		expectSays(t, z, c.At-300, i, api.Day-300+offsetAt(z, c.At-1))
	}
}

func TestSaysOfTowns(t *testing.T) {
	x := seeded(1)
	for range 300 {
		z := randomTown(x, 12, 1, 2000, 43200)
		for range 50 {
			at := from(x, 0, 2100)
			day, second, e := zone.Says(z, at)
			if day*api.Day+second != at+offsetAt(z, at) || second < 0 || second >= api.Day || e != api.OK {
				t.Fatalf("Says(%v, %d) = %d, %d, %v", z, at, day, second, e)
			}
		}
	}
}

func TestErrorsOfSays(t *testing.T) {
	for _, z := range goodTowns() {
		for _, at := range append(wild(), -1, api.MaxTime+1) {
			expectSaysError(t, z, at, api.ErrRange)
		}
	}
}
