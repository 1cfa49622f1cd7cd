package dial_test

import (
	"math/rand/v2"
	"testing"

	"turret/api"
	"turret/dial"
)

// P4.4

func TestReach(t *testing.T) {
	expectReach(t, setting{church(), 0, 600, gust()}, truth(-2, 0, -25, 18), truth(0, 0, -25, 0))
	expectReach(t, setting{church(), 0, 600, breeze()}, truth(-2, 0, -5, 0), truth(0, 0, -5, 0))
	expectReach(t, setting{church(), 0, 2400, breeze()}, truth(-2, 0, -5, 18), truth(0, 0, -5, 18))
	// One truth alone.
	expectReach(t, setting{right(plain()), 0, 600, single(7)}, truth(0, 0, 7, 0), truth(0, 0, 7, 0))
	// The ends of Set, and of Error where hands move each second.
	expectReach(t, setting{right(set(span(-7, 4))), 0, 600, breeze()}, truth(0, -7, -5, 0), truth(0, 4, -5, 0))
	expectReach(t, setting{works(1, span(-5, 9), linked()), 0, 600, breeze()}, truth(-5, 0, -5, 0), truth(9, 0, -5, 0))
	// Each face has its own hands.
	two := faced(linked(), plain(), set(single(100)))
	expectReach(t, setting{two, 0, 2400, breeze()}, truth(-2, 0, -5, 0), truth(0, 0, -5, 0))
	expectReach(t, setting{two, 1, 2400, breeze()}, truth(-2, 0, -5, 18), truth(0, 0, -5, 18))
	expectReach(t, setting{two, 2, 2400, breeze()}, truth(-2, 100, -5, 18), truth(0, 100, -5, 18))
}

func TestReachHasTheSmallestError(t *testing.T) {
	// Of all errors with which the hands are driven to one place it is the smallest one.
	w := works(30, span(-70, 70), linked())
	expectReach(t, setting{w, 0, 600, single(0)}, truth(-70, 0, 0, 0), truth(60, 0, 0, 0))
	expectReach(t, setting{w, 0, 605, single(0)}, truth(-70, 0, 0, 0), truth(55, 0, 0, 0))
	expectReach(t, setting{w, 0, 629, single(0)}, truth(-70, 0, 0, 0), truth(61, 0, 0, 0))
	expectReach(t, setting{works(3600, span(-9, 9), linked()), 0, 1800, single(0)}, truth(-9, 0, 0, 0), truth(-9, 0, 0, 0))
	// Two places: at 1782 the hand is ahead, and at 1800 it hangs back by as much as there is between them.
	tie := works(18, span(-1, 1), plain())
	expectReach(t, setting{tie, 0, 1800, breeze()}, truth(-1, 0, -5, 0), truth(-1, 0, -5, 0))
	// Where it hangs back by more, the later place has the least number; where by less, the greatest one.
	expectReach(t, setting{works(15, span(-1, 1), plain()), 0, 1800, breeze()}, truth(0, 0, -5, 18), truth(-1, 0, -5, 0))
	expectReach(t, setting{works(20, span(-1, 1), plain()), 0, 1800, breeze()}, truth(-1, 0, -5, 0), truth(0, 0, -5, 18))
}

func TestReachHasTheSmallestWind(t *testing.T) {
	w := right(plain())
	// The least wind with which a falling hand can be ahead is -40, and for a rising one 20.
	expectReach(t, setting{w, 0, 600, span(-100, 100)}, truth(0, 0, -100, 18), truth(0, 0, -40, 0))
	expectReach(t, setting{w, 0, 2400, span(-100, 100)}, truth(0, 0, -100, 18), truth(0, 0, 20, 0))
	expectReach(t, setting{w, 0, 600, span(-40, 100)}, truth(0, 0, -40, 18), truth(0, 0, -40, 0))
	expectReach(t, setting{w, 0, 600, span(-39, 100)}, truth(0, 0, -39, 18), truth(0, 0, -39, 0))
	expectReach(t, setting{w, 0, 600, span(-41, 100)}, truth(0, 0, -41, 18), truth(0, 0, -40, 0))
	expectReach(t, setting{w, 0, 600, span(-41, -40)}, truth(0, 0, -41, 18), truth(0, 0, -40, 0))
	expectReach(t, setting{w, 0, 2400, span(20, 100)}, truth(0, 0, 20, 18), truth(0, 0, 20, 0))
	expectReach(t, setting{w, 0, 2400, span(19, 20)}, truth(0, 0, 19, 18), truth(0, 0, 20, 0))
	// A wind in which the hand must hang back, or cannot.
	expectReach(t, setting{w, 0, 600, span(-100, -41)}, truth(0, 0, -100, 18), truth(0, 0, -100, 18))
	expectReach(t, setting{w, 0, 600, span(-19, 100)}, truth(0, 0, -19, 0), truth(0, 0, -19, 0))
	expectReach(t, setting{w, 0, 2400, span(-100, 19)}, truth(0, 0, -100, 18), truth(0, 0, -100, 18))
	// Without slack each wind will do.
	expectReach(t, setting{right(linked()), 0, 600, span(-100, 100)}, truth(0, 0, -100, 0), truth(0, 0, -100, 0))
	// The weight and the friction count.
	expectReach(t, setting{right(forced(-50, 3)), 0, 600, span(-100, 100)}, truth(0, 0, -100, 18), truth(0, 0, 47, 0))
	expectReach(t, setting{right(forced(-50, 3)), 0, 2400, span(-100, 100)}, truth(0, 0, -100, 18), truth(0, 0, -53, 0))
	expectReach(t, setting{right(forced(0, 10000)), 0, 2400, span(-10000, 10000)}, truth(0, 0, -10000, 18), truth(0, 0, -10000, 0))
	expectReach(t, setting{right(forced(10000, 0)), 0, 2400, span(-10000, 10000)}, truth(0, 0, -10000, 18), truth(0, 0, 10000, 0))
	// The smallest error comes before the smallest wind: driven to 1782 the hand can be ahead from -40 on, and driven to 1800, a second later, it hangs back to 1782 in any of these winds.
	expectReach(t, setting{works(18, span(-1, 1), plain()), 0, 1800, span(-100, 19)}, truth(-1, 0, -100, 18), truth(-1, 0, -40, 0))
}

// P4.10

func TestReachIsATruth(t *testing.T) {
	r := seeded(6)
	for _, size := range []size{few(), many()} {
		for s := range settings(7, 500, size) {
			off, _ := dial.Off(s.works, s.face, s.at, s.wind)
			least, e := dial.Reach(s.works, s.face, s.at, s.wind, false)
			greatest, f := dial.Reach(s.works, s.face, s.at, s.wind, true)
			if e != api.OK || f != api.OK || !s.holds(least) || !s.holds(greatest) {
				t.Fatalf("%v: %v and %v, the errors %v and %v; not both are truths", s, least, greatest, e, f)
			}
			if offOf(s.works, s.at, least) != off.Low || offOf(s.works, s.at, greatest) != off.High {
				t.Fatalf("%v: the dial is off by %v, not by its ends in %v and %v", s, off, least, greatest)
			}
			checkTruths(t, r, s, off)
		}
	}
}

// checkTruths fails unless the dial is off by an integer of a span, and shows what it can show, in random truths.
func checkTruths(t *testing.T, r *rand.Rand, s setting, off api.Span) {
	t.Helper()
	shows, _ := dial.Shows(s.works, s.face, s.at, s.wind)
	for range 30 {
		fast := s.works.Error.Low + r.IntN(s.works.Error.High-s.works.Error.Low+1)
		x := s.truth(r, fast)
		n := offOf(s.works, s.at, x)
		if n < off.Low || n > off.High {
			t.Fatalf("%v: in the truth %v the dial is off by %d, beyond %v", s, x, n, off)
		}
		if !contains(shows, modulo(s.at+n, api.HalfDay)) {
			t.Fatalf("%v: in the truth %v the dial shows %d, none of %v", s, x, modulo(s.at+n, api.HalfDay), shows)
		}
	}
}

// contains reports whether a number is in one of some spans.
func contains(l []api.Span, n int) bool {
	for _, s := range l {
		if s.Low <= n && n <= s.High {
			return true
		}
	}
	return false
}
