package strike_test

import (
	"testing"

	"turret/api"
	"turret/strike"
)

// P5.6

func TestBring(t *testing.T) {
	expectBring(t, night(), 6, 5, 7, plan(off(1)), 1)
	expectBring(t, night(), 6, 5, 28, append(plan(off(1)), nothing(21)...), 1)
	expectBring(t, night(), 6, 5, 29, holding(23), 0)
	expectBring(t, night(), 7, 9, 9, holding(2), 0)
	// Half hours cost least: a place behind at the slot 7, it waits.
	expectBring(t, halved(), 7, 6, 8, plan(off(1)), 3)
	expectBring(t, halved(), 7, 6, 9, plan(off(0), off(1)), 1)
	expectBring(t, halved(), 7, 6, 10, plan(off(0), off(1), off(0)), 1)
	// Two places behind: one half hour after the other.
	expectBring(t, halved(), 7, 5, 8, plan(off(2)), 1+3)
	expectBring(t, halved(), 7, 5, 9, plan(off(1), off(1)), 2)
	expectBring(t, halved(), 7, 5, 10, plan(off(1), off(1), off(0)), 2)
	// Ahead, it is held as often, and as early, as it has to be.
	expectBring(t, hourly(), 7, 9, 8, plan(off(10)), 78-7-8)
	expectBring(t, hourly(), 7, 9, 9, plan(held(), held()), 0)
	expectBring(t, hourly(), 7, 9, 12, plan(held(), held(), off(0), off(0), off(0)), 0)
	// A place behind at noon, it waits for 1 o'clock if there is time.
	expectBring(t, hourly(), 0, 11, 1, plan(off(1)), 11)
	expectBring(t, hourly(), 0, 11, 2, plan(off(1), off(0)), 11)
	expectBring(t, hourly(), 0, 11, 3, plan(off(0), off(0), off(1)), 1)
	expectBring(t, hourly(), 0, 11, 4, plan(off(0), off(0), off(1), off(0)), 1)
	expectBring(t, hourly(), 0, 11, 10, append(plan(off(0), off(0), off(1)), nothing(7)...), 1)
	expectBring(t, hourly(), 0, 11, 11, holding(11), 0)
	expectBring(t, hourly(), 0, 11, 12, append(holding(11), off(0)), 0)
}

func TestBringUntilTheSlot(t *testing.T) {
	for _, r := range []api.StrikeRules{hourly(), halved(), night(), hourly(span(0, 23))} {
		for _, slot := range numbers(0, 1, 12, 30, api.MaxStrikeSlot) {
			for _, place := range allPlaces(r) {
				if place == rightOf(r, slot) {
					expectBring(t, r, slot, place, slot, nil, 0)
				} else {
					expectBringError(t, r, slot, place, slot, api.ErrNone)
				}
			}
		}
	}
}

func TestBringAsLateAsIsAllowed(t *testing.T) {
	for _, r := range []api.StrikeRules{hourly(), halved(), night(), hourly(span(0, 23))} {
		for _, slot := range numbers(0, 23, api.MaxStrikeSlot) {
			right := rightOf(r, slot)
			expectBring(t, r, slot, right, slot+96, nothing(96), 0)
			ahead := (right + 3) % placesOf(r)
			expectBring(t, r, slot, ahead, slot+96, append(holding(3), nothing(93)...), 0)
			for _, until := range append(wild(), slot-1, slot-96, slot+97, slot+98, slot+1000) {
				expectBringError(t, r, slot, right, until, api.ErrRange)
				expectBringError(t, r, slot, ahead, until, api.ErrRange)
			}
		}
	}
}

// The strike is not let off before a silent slot.
func TestBringInSilence(t *testing.T) {
	all := hourly(span(0, 23))
	for ahead := 1; ahead < 12; ahead++ {
		for slots := range 30 {
			if slots < ahead {
				expectBringError(t, all, 5, (5+ahead)%12, 5+slots, api.ErrNone)
			} else {
				expectBring(t, all, 5, (5+ahead)%12, 5+slots, append(holding(ahead), nothing(slots-ahead)...), 0)
			}
		}
	}
	r := hourly(span(3, 5), span(7, 10))
	expectBringError(t, r, 3, 2, 6, api.ErrNone)
	expectBring(t, r, 3, 2, 7, append(nothing(3), off(1)), 5)
	expectBring(t, r, 3, 2, 11, append(nothing(3), off(1), off(0), off(0), off(0), off(0)), 5)
	expectBring(t, r, 2, 1, 3, plan(off(1)), 1)
	expectBring(t, r, 10, 9, 12, plan(off(0), off(1)), 10)
	expectBringError(t, r, 10, 9, 11, api.ErrNone)
	expectBring(t, r, 6, 4, 8, plan(off(2), off(0)), 4+5)
	expectBringError(t, r, 7, 5, 11, api.ErrNone)
	expectBring(t, r, 7, 5, 12, append(nothing(4), off(2)), 9+10)
	expectBring(t, r, 7, 10, 12, append(holding(3), nothing(2)...), 0)
	// The days that follow have the same silence.
	expectBringError(t, r, 27, 2, 30, api.ErrNone)
	expectBring(t, r, 27, 2, 31, append(nothing(3), off(1)), 5)
}

func TestErrorsOfBring(t *testing.T) {
	for _, r := range kinds(span(3, 5)) {
		n := placesOf(r)
		untils := append(wild(), 0, 1, 4, 100, api.MaxStrikeSlot, api.MaxStrikeSlot+1, api.MaxStrikeSlot+96)
		for _, until := range untils {
			for _, slot := range append(wild(), api.MaxStrikeSlot+1, api.MaxStrikeSlot+2) {
				for _, place := range append(wild(), 0, 4, n) {
					expectBringError(t, r, slot, place, until, api.ErrRange)
				}
			}
			for _, slot := range numbers(0, 3, 4, 7, api.MaxStrikeSlot) {
				for _, place := range append(wild(), n, n+1, 2*n) {
					expectBringError(t, r, slot, place, until, api.ErrArg)
				}
			}
		}
		expectBringError(t, r, 4, 4, 3, api.ErrRange)
		expectBringError(t, r, 4, 4, 101, api.ErrRange)
		expectBring(t, r, 4, 4, 100, nothing(96), 0)
		expectBring(t, r, 0, 0, 1, nothing(1), 0)
		expectBring(t, r, 0, 0, 0, nil, 0)
	}
	expectBring(t, hourly(), 1, 0, 2, plan(off(1)), 12)
	expectBring(t, hourly(), 10, 0, 11, plan(off(10)), 78-10-11)
	expectBring(t, halved(), 22, 0, 23, plan(off(22)), 90-11-1)
}

func TestBringAgainstAllPlans(t *testing.T) {
	x := seeded(8)
	for _, size := range []struct{ cases, slots, most int }{{300, 1, 48}, {60, 2, 48}, {60, 3, 11}, {3, 3, 23}, {3, 4, 11}} {
		for range size.cases {
			r := randomRules(x)
			slot, place := x.IntN(1000), x.IntN(placesOf(r))
			if x.IntN(8) == 0 {
				r, place = racked(r), rightOf(r, slot)
			}
			if size.most < placesOf(r)-1 {
				r.Halves, r.Quiet, place = false, randomQuiet(x, 24), place%12
				if r.Rack {
					place = rightOf(r, slot)
				}
			}
			best, ok := bestOfAll(r, slot, place, slot+size.slots, size.most)
			expectBest(t, r, slot, place, slot+size.slots, best, ok)
		}
	}
}

// With much silence there are fewer plans.
func TestBringAgainstAllPlansInSilence(t *testing.T) {
	x := seeded(9)
	for range 60 {
		low := x.IntN(5)
		r := hourly(span(low, low+x.IntN(4)), span(low+5, low+5+x.IntN(12)))
		if x.IntN(3) == 0 {
			r.Halves = true
		}
		slot, place := low+x.IntN(3), x.IntN(placesOf(r))
		until := slot
		for free := 0; free < 2 && until < slot+9; until++ {
			if !isSilent(r, until) {
				free++
			}
		}
		best, ok := bestOfAll(r, slot, place, until, placesOf(r)-1)
		expectBest(t, r, slot, place, until, best, ok)
	}
}

func TestBringWithMuchTime(t *testing.T) {
	x := seeded(10)
	for range 60 {
		r := randomRules(x)
		slot, place := x.IntN(1000), x.IntN(placesOf(r))
		if x.IntN(8) == 0 {
			r, place = racked(r), rightOf(r, slot)
		}
		until := slot + x.IntN(1+x.IntN(97))
		best, ok := bestOfLong(r, slot, place, until)
		expectBest(t, r, slot, place, until, best, ok)
	}
}

// P5.8

func TestBroughtBack(t *testing.T) {
	x := seeded(11)
	for range 300 {
		r := randomRules(x)
		slot, place := x.IntN(api.MaxStrikeSlot-1000), x.IntN(placesOf(r))
		until := slot + x.IntN(1+x.IntN(97))
		l, hand, e := strike.Bring(r, slot, place, until)
		if e == api.ErrNone {
			continue
		}
		if len(l) != until-slot {
			t.Fatalf("Bring(%v, %d, %d, %d): %d steps", r, slot, place, until, len(l))
		}
		expectPlay(t, r, slot, place, l, rightOf(r, until), hand)
		for i, s := range l {
			if s.Off > 0 && isSilent(r, slot+i) {
				t.Fatalf("Bring(%v, %d, %d, %d) = %v: let off in silence at %d", r, slot, place, until, l, slot+i)
			}
		}
		end, _, _ := strike.Play(r, slot, place, l)
		blows, _, _ := history{until, end, make([]bool, 2*placesOf(r))}.run(r)
		for i, n := range blows {
			expectBlows(t, r, until+i, n)
		}
	}
}

func TestNoPlanHasFewerBlows(t *testing.T) {
	x := seeded(12)
	for range 3000 {
		r := randomRules(x)
		slot, place := x.IntN(1000), x.IntN(placesOf(r))
		steps := x.IntN(12)
		l := randomPlan(x, r, slot, steps, 5)
		// Any plan that ends at the right place does not have fewer blows.
		p := playedOf(r, slot, place, l)
		if p.end != rightOf(r, slot+steps) {
			continue
		}
		if _, hand, e := strike.Bring(r, slot, place, slot+steps); e != api.OK || hand > p.hand {
			t.Fatalf("Bring(%v, %d, %d, %d): %d blows, %v; %v has %d", r, slot, place, slot+steps, hand, e, l, p.hand)
		}
	}
}

// P5.9

func TestWithMoreTime(t *testing.T) {
	x := seeded(13)
	for range 8 {
		r := randomRules(x)
		slot, place := x.IntN(1000), x.IntN(placesOf(r))
		before, found := 0, false
		for until := slot; until <= slot+96; until += 1 + x.IntN(3) {
			_, hand, e := strike.Bring(r, slot, place, until)
			if e != api.OK && (e != api.ErrNone || found) || e == api.OK && found && hand > before {
				t.Fatalf("Bring(%v, %d, %d, %d): %d blows, %v; with less time %d", r, slot, place, until, hand, e, before)
			}
			before, found = hand, e == api.OK
		}
	}
}

func TestWithManySlots(t *testing.T) {
	for _, r := range []api.StrikeRules{hourly(), halved(), night(), hourly(span(0, 23)), halved(span(0, 47)), hourly(nineSpans()[:8]...)} {
		n := placesOf(r)
		for _, slot := range numbers(0, 5, api.MaxStrikeSlot) {
			for ahead := range n {
				place := (rightOf(r, slot) + ahead) % n
				for _, slots := range numbers(n-1, n, n+1, 2*n, 3*n+5) {
					expectBring(t, r, slot, place, slot+slots, append(holding(ahead), nothing(slots-ahead)...), 0)
				}
			}
		}
	}
}

func TestRightAlready(t *testing.T) {
	x := seeded(14)
	for range 100 {
		r := randomRules(x)
		slot, slots := x.IntN(api.MaxStrikeSlot+1), x.IntN(97)
		expectBring(t, r, slot, rightOf(r, slot), slot+slots, nothing(slots), 0)
	}
}
