package strike_test

import (
	"testing"

	"turret/api"
)

// P5.11

func TestRackIsAlwaysRight(t *testing.T) {
	x := seeded(15)
	for range 100 {
		r := racked(randomRules(x))
		slot, slots := x.IntN(api.MaxStrikeSlot+1), x.IntN(97)
		right := rightOf(r, slot)
		expectBring(t, r, slot, right, slot+slots, nothing(slots), 0)
		for _, place := range allPlaces(r) {
			if place != right {
				expectBringError(t, r, slot, place, slot+slots, api.ErrArg)
				expectBringError(t, r, slot, place, slot-1, api.ErrArg)
				expectPlayError(t, r, slot, place, nothing(slots), api.ErrArg)
				expectPlayError(t, r, slot, place, nothing(97), api.ErrArg)
			}
		}
		expectPlay(t, r, slot, right, nothing(slots), rightOf(r, slot+slots), 0)
		expectPlay(t, r, slot, right, holding(slots), rightOf(r, slot+slots), 0)
	}
}

// A rack that is let off by hand stays, and has the same blows again.
func TestRackByHand(t *testing.T) {
	r := racked(halved(span(10, 11)))
	expectPlay(t, r, 6, 6, plan(off(1)), 7, 3)
	expectPlay(t, r, 6, 6, plan(off(4)), 7, 12)
	expectPlay(t, r, 6, 6, plan(offHeld(4)), 7, 12)
	expectPlay(t, r, 6, 6, plan(off(2), off(3), off(2)), 9, 6+3+8)
	expectPlay(t, r, 0, 0, plan(off(48)), 1, 48*12)
	expectPlay(t, r, 6, 6, plan(held(), held(), off(1)), 9, 4)
	expectPlayError(t, r, 9, 9, plan(off(1), off(1)), api.ErrState)
}

// Its misses are the slots in which blows were due, it was listened, and none was heard.
func TestMissesOfARack(t *testing.T) {
	r := racked(hourly(span(5, 6)))
	expectMisses(t, r, heard(at(2, 2), at(3, 3)), 0, 4)
	expectMisses(t, r, heard(at(2, 2), at(4, 4)), 0, 5)
	expectMisses(t, r, heard(at(2, 0), at(4, 4)), 1, 5)
	expectMisses(t, r, heard(at(2, 0)), 1, 3)
	expectMisses(t, r, heard(at(4, 0), at(5, 0), at(6, 0), at(7, 0)), 2, 8)
	expectMisses(t, r, heard(at(5, 0)), 0, 6)
	expectMisses(t, r, heard(at(11, 11)), 0, 0)
	expectMisses(t, r, heard(at(11, 0), at(12, 12)), 1, 1)
	expectMissesError(t, r, heard(at(2, 3)), api.ErrState)
	expectMissesError(t, r, heard(at(2, 2), at(3, 2)), api.ErrState)
	expectMissesError(t, r, heard(at(5, 5)), api.ErrState)
	expectMisses(t, r, heard(at(29, 0), at(30, 0)), 0, 7)
	expectMissesError(t, r, heard(at(4, 4), at(6, 6)), api.ErrState)
}

func TestMissesOfARackAreCounted(t *testing.T) {
	x := seeded(16)
	for range 200 {
		r := racked(randomRules(x))
		many := 1 + x.IntN(300)
		l := hear(x, r, randomHistory(x, r, x.IntN(api.MaxStrikeSlot-many), many, 1+x.IntN(8)), 1+x.IntN(5))
		missed := 0
		for _, h := range l {
			if h.Blows == 0 && dueAt(r, h.Slot) > 0 {
				missed++
			}
		}
		expectMisses(t, r, l, missed, rightOf(r, l[len(l)-1].Slot+1))
	}
}
