package strike_test

import (
	"slices"
	"testing"

	"turret/api"
	"turret/drop"
	"turret/strike"
	"turret/train"
)

// P5.2

func TestBlows(t *testing.T) {
	for _, x := range []struct{ slot, want int }{{0, 12}, {1, 1}, {2, 1}, {12, 6}, {24, 0}, {20, 10}, {21, 1}, {22, 0}, {38, 0}, {39, 1}, {40, 8}, {47, 1}, {48, 12}, {70, 0}, {69, 1}, {86, 0}, {87, 1}} {
		expectBlows(t, night(), x.slot, x.want)
		expectBlows(t, racked(night()), x.slot, x.want)
	}
}

// Noon and midnight, and all slots between them, with and without half hours.
func TestBlowsOfSomeDays(t *testing.T) {
	for _, r := range kinds() {
		day := slices.Repeat(blowsByPlace(r), 2)
		for slot := range 5 * len(day) {
			expectBlows(t, r, slot, day[slot%len(day)])
		}
	}
	for _, slot := range numbers(0, 12, 24, 36) {
		expectBlows(t, hourly(), slot, 12)
		expectBlows(t, halved(), 2*slot, 12)
		expectBlows(t, halved(), 2*slot+1, 1)
	}
}

func TestBlowsAtTheFirstAndLastSlots(t *testing.T) {
	// The last slot is the slot 8 of a day without half hours, and the slot 32 of one with them.
	expectBlows(t, hourly(), api.MaxStrikeSlot, 8)
	expectBlows(t, hourly(), api.MaxStrikeSlot-1, 7)
	expectBlows(t, halved(), api.MaxStrikeSlot, 4)
	expectBlows(t, halved(), api.MaxStrikeSlot-1, 1)
	expectBlows(t, night(), api.MaxStrikeSlot, 0)
	expectBlows(t, halved(span(0, 31), span(33, 47)), api.MaxStrikeSlot, 4)
	expectBlows(t, halved(span(32, 32)), api.MaxStrikeSlot, 0)
	for _, r := range kinds() {
		expectBlows(t, r, 0, 12)
		for _, slot := range append(wild(), api.MaxStrikeSlot+1, api.MaxStrikeSlot+2) {
			expectBlowsError(t, r, slot, api.ErrRange)
		}
	}
}

func TestSilence(t *testing.T) {
	for _, r := range goodRules() {
		slots := 2 * placesOf(r)
		for _, day := range numbers(0, 1, 2, 41665, 41666) {
			for n := range slots {
				if slot := day*slots + n; slot <= api.MaxStrikeSlot {
					expectBlows(t, r, slot, dueAt(r, slot))
				}
			}
		}
	}
	// The slots of a span, and those on both sides of it.
	r := hourly(span(9, 11), span(13, 13))
	for i, want := range numbers(8, 0, 0, 0, 12, 0, 2) {
		expectBlows(t, r, 8+i, want)
		expectBlows(t, r, 8+24+i, want)
		expectBlows(t, r, 8+24*1000+i, want)
	}
	// Spans are of slots of a day, not of half a day.
	expectBlows(t, hourly(span(0, 0)), 0, 0)
	expectBlows(t, hourly(span(0, 0)), 12, 12)
	expectBlows(t, hourly(span(12, 12)), 0, 12)
	expectBlows(t, hourly(span(12, 12)), 12, 0)
	expectBlows(t, hourly(span(23, 23)), 23, 0)
	expectBlows(t, hourly(span(23, 23)), 24, 12)
	expectBlows(t, hourly(span(3, 5), span(6, 6)), 6, 0)
	expectBlows(t, hourly(span(3, 5), span(6, 6)), 7, 7)
}

// P5.3

func TestDay(t *testing.T) {
	for _, x := range []struct {
		rules api.StrikeRules
		want  int
	}{
		{night(), 121}, {hourly(), 156}, {halved(), 180}, {hourly(span(0, 23)), 0}, {halved(span(0, 47)), 0}, {halved(span(0, 23)), 90}, {hourly(span(0, 11)), 78}, {hourly(span(12, 23)), 78},
		{hourly(span(0, 0)), 144}, {hourly(span(12, 12)), 144}, {hourly(span(23, 23)), 145}, {halved(span(47, 47)), 179}, {halved(span(1, 1), span(3, 3)), 178}, {hourly(nineSpans()[:8]...), 156 - 12 - 2 - 4 - 6 - 8 - 10 - 12 - 2},
		{hourly(span(0, 11), span(12, 23)), 0}, {halved(span(0, 45), span(47, 47)), 11},
	} {
		expectDay(t, x.rules, x.want)
		expectDay(t, racked(x.rules), x.want)
	}
}

// P5.10

func TestDayIsTheSumOfBlows(t *testing.T) {
	x := seeded(2)
	list := goodRules()
	for range 300 {
		list = append(list, randomRules(x))
	}
	for _, r := range list {
		slots := 2 * placesOf(r)
		for _, first := range numbers(0, slots, 17*slots, 5*slots+slots/2, 9*slots+7) {
			sum := 0
			for n := range slots {
				blows, _ := strike.Blows(r, first+n)
				sum += blows
			}
			expectDay(t, r, sum)
		}
	}
	for _, r := range kinds(span(4, 10)) {
		for slot := 4; slot <= 10; slot++ {
			expectBlows(t, r, slot, 0)
		}
	}
}

// Example 1 of those across the chapters.
func TestCountWheelAndPinWheel(t *testing.T) {
	day, _ := strike.Day(hourly())
	shop := api.TrainShop{Wheels: numbers(78), Pinions: numbers(6)}
	trains, e := train.Fewest(shop, api.Ratio{Num: day / 2, Den: 6})
	if day != 156 || e != api.OK || len(trains) != 1 || !slices.Equal(trains[0].Wheels, numbers(78)) || !slices.Equal(trains[0].Pinions, numbers(6)) {
		t.Errorf("%d blows: the trains %v, %v", day, trains, e)
	}
}

// Example 6 of those across the chapters.
func TestLineOfAStrike(t *testing.T) {
	clock := api.DropClock{Line: 400}
	for slot := range 24 {
		blows, _ := strike.Blows(hourly(), slot)
		clock.Hours = append(clock.Hours, span(2*blows, 2*blows))
	}
	if s, e := drop.Goes(clock, 400, 0); s != span(32, 32) || e != api.OK {
		t.Errorf("Goes(%v, 400, 0) = %v, %v", clock, s, e)
	}
}
