package dial_test

import (
	"testing"

	"turret/api"
	"turret/dial"
)

// P4.3

func TestOff(t *testing.T) {
	expectOff(t, church(), 0, 600, breeze(), span(-30, 0))
	expectOff(t, church(), 0, 2400, breeze(), span(-48, -18))
	expectOff(t, church(), 0, 600, gust(), span(-48, 0))
	// Rising, the force of a gust is from -55 to -25.
	expectOff(t, church(), 0, 2400, gust(), span(-48, -18))
	// A tail that is heavier: the hand hangs back while it falls.
	tail := faced(forced(-30, 10))
	expectOff(t, tail, 0, 600, breeze(), span(-48, -18))
	expectOff(t, tail, 0, 2400, breeze(), span(-30, 0))
	// A clock whose error is known, between two moves of the hands.
	expectOff(t, works(30, single(0), plain()), 0, 611, breeze(), single(-11))
	expectOff(t, works(30, single(0), plain()), 0, 2411, breeze(), single(-29))
	// Hands that were set, and a face without links.
	expectOff(t, right(set(span(-7, 4))), 0, 600, breeze(), span(-7, 4))
	expectOff(t, right(set(span(-7, 4))), 0, 2400, breeze(), span(-25, -14))
	expectOff(t, right(linked()), 0, 2400, span(-10000, 10000), single(0))
	expectOff(t, works(1, span(-5, 9), linked()), 0, 2400, gust(), span(-5, 9))
	// Each face has its own hands.
	two := faced(linked(), plain(), set(single(100)))
	expectOff(t, two, 0, 2400, breeze(), span(-30, 0))
	expectOff(t, two, 1, 2400, breeze(), span(-48, -18))
	expectOff(t, two, 2, 2400, breeze(), span(52, 82))
}

// Example 2 of those across the chapters.
func TestOffOfAPendulum(t *testing.T) {
	w := works(30, span(-11, 11), linked())
	expectOff(t, w, 0, 173400, single(0), span(-30, 0))
	expectShows(t, w, 0, 173400, single(0), single(570), single(600))
}

// Example 8 of those across the chapters.
func TestOffOfAGap(t *testing.T) {
	expectOff(t, right(linked(link(20, 1, 1))), 0, 600, span(-1000, 1000), span(-72, 0))
	expectOff(t, right(linked(link(5, 1, 1))), 0, 600, span(-1000, 1000), span(-18, 0))
}

// A force of just the friction lets the hand hang anywhere; one that is greater by 1 decides.
func TestFriction(t *testing.T) {
	for _, x := range []struct {
		wind              api.Span
		falling, mounting api.Span
	}{
		{single(-20), span(-18, 0), single(-18)}, {single(-19), single(0), single(-18)}, {single(-21), span(-18, 0), single(-18)},
		{single(-40), span(-18, 0), single(-18)}, {single(-41), single(-18), single(-18)}, {single(-39), span(-18, 0), single(-18)},
		{single(20), single(0), span(-18, 0)}, {single(19), single(0), single(-18)}, {single(21), single(0), span(-18, 0)},
		{single(40), single(0), span(-18, 0)}, {single(41), single(0), single(0)}, {single(39), single(0), span(-18, 0)},
		{span(-19, 19), single(0), single(-18)}, {span(-20, 20), span(-18, 0), span(-18, 0)}, {span(-41, 41), span(-18, 0), span(-18, 0)},
		{span(-45, -41), single(-18), single(-18)}, {span(-45, -40), span(-18, 0), single(-18)}, {span(41, 45), single(0), single(0)}, {span(40, 45), single(0), span(-18, 0)},
		{span(-10000, 10000), span(-18, 0), span(-18, 0)}, {single(-10000), single(-18), single(-18)}, {single(10000), single(0), single(0)},
	} {
		expectOff(t, right(plain()), 0, 600, x.wind, x.falling)
		expectOff(t, right(plain()), 0, 2400, x.wind, x.mounting)
		expectOff(t, right(forced(-30, 10)), 0, 600, x.wind, x.mounting)
		expectOff(t, right(forced(-30, 10)), 0, 2400, x.wind, x.falling)
	}
	// Without friction just a force of 0 lets it hang anywhere.
	free := right(forced(30, 0))
	expectOff(t, free, 0, 600, single(-30), span(-18, 0))
	expectOff(t, free, 0, 600, single(-29), single(0))
	expectOff(t, free, 0, 600, single(-31), single(-18))
	expectOff(t, free, 0, 600, span(-31, -29), span(-18, 0))
	// The greatest forces and frictions.
	expectOff(t, right(forced(10000, 10000)), 0, 600, single(0), span(-18, 0))
	expectOff(t, right(forced(10000, 10000)), 0, 600, single(1), single(0))
	expectOff(t, right(forced(10000, 10000)), 0, 2400, single(0), span(-18, 0))
	expectOff(t, right(forced(10000, 10000)), 0, 2400, single(-1), single(-18))
	expectOff(t, right(forced(-10000, 10000)), 0, 600, single(-1), single(-18))
	expectOff(t, right(forced(-10000, 10000)), 0, 2400, single(1), single(0))
	expectOff(t, right(forced(-10000, 0)), 0, 600, single(10000), span(-18, 0))
	expectOff(t, right(forced(0, 10000)), 0, 600, single(10000), span(-18, 0))
}

// The hand falls from the hour to just before the half hour.
func TestHalfHours(t *testing.T) {
	w := right(plain())
	for _, hour := range numbers(0, 1, 2, 11, 12, 13, 24, 876599) {
		at := 3600 * hour
		expectOff(t, w, 0, at, breeze(), single(0))
		expectOff(t, w, 0, at+1, breeze(), single(0))
		expectOff(t, w, 0, at+1799, breeze(), single(0))
		expectOff(t, w, 0, at+1800, breeze(), single(-18))
		expectOff(t, w, 0, at+1801, breeze(), single(-18))
		expectOff(t, w, 0, at+3599, breeze(), single(-18))
		expectOff(t, w, 0, at+3600, breeze(), single(0))
	}
	// Where the hand is driven decides, not the time: at 1799 a clock that is fast drives it to 1800.
	expectOff(t, works(1, span(0, 1), plain()), 0, 1799, breeze(), span(-17, 0))
	expectOff(t, works(1, span(-1, 0), plain()), 0, 1800, breeze(), span(-18, -1))
	expectOff(t, works(1, span(-1, 1), plain()), 0, 3600, breeze(), span(-19, 1))
	expectOff(t, works(30, single(0), plain()), 0, 1799, breeze(), single(-29))
	expectOff(t, works(30, single(0), plain()), 0, 1800, breeze(), single(-18))
	expectOff(t, works(1800, single(0), plain()), 0, 3599, breeze(), single(-1799-18))
}

func TestOffAtTheFirstAndLastTimes(t *testing.T) {
	expectOff(t, right(plain()), 0, 0, breeze(), single(0))
	expectOff(t, right(plain()), 0, api.MaxTime, breeze(), single(0))
	// A hand that is driven to a time before 0 rises up to there.
	expectOff(t, church(), 0, 0, breeze(), span(-48, 0))
	expectOff(t, works(30, single(-1), plain()), 0, 0, breeze(), single(-48))
	expectOff(t, works(30, single(-30), plain()), 0, 0, breeze(), single(-48))
	expectOff(t, works(30, single(-31), plain()), 0, 0, breeze(), single(-78))
	expectOff(t, works(1, single(-1800), plain()), 0, 0, breeze(), single(-1818))
	expectOff(t, works(1, single(-1801), plain()), 0, 0, breeze(), single(-1801))
	expectOff(t, works(1, single(-3600), plain()), 0, 0, breeze(), single(-3600))
	expectOff(t, works(3600, single(-1), plain()), 0, 0, breeze(), single(-3600))
	expectOff(t, works(3600, single(3600), plain()), 0, api.MaxTime, breeze(), single(3600))
	expectOff(t, works(3600, single(-1), plain()), 0, api.MaxTime, breeze(), single(-3600))
	expectOff(t, works(1, single(3600), plain()), 0, api.MaxTime-1, breeze(), single(3600-18))
}

func TestJumps(t *testing.T) {
	// Hands that move each hour always fall.
	hourly := works(3600, single(0), plain())
	expectOff(t, hourly, 0, 3599, breeze(), single(-3599))
	expectOff(t, hourly, 0, 3600, breeze(), single(0))
	expectOff(t, hourly, 0, 5400, breeze(), single(-1800))
	expectOff(t, works(3600, span(-3600, 3600), plain()), 0, 7200, breeze(), span(-3600, 3600))
	expectOff(t, works(3600, span(-3600, 3600), plain()), 0, 7199, breeze(), span(-7199, 1))
	// The last second before a move, and the move.
	expectOff(t, works(60, single(0), linked()), 0, 659, breeze(), single(-59))
	expectOff(t, works(60, single(0), linked()), 0, 660, breeze(), single(0))
	expectOff(t, works(60, span(0, 1), linked()), 0, 659, breeze(), span(-59, 1))
	expectOff(t, works(60, span(-1, 0), linked()), 0, 660, breeze(), span(-60, 0))
	// The greatest errors, sets and slack.
	worst := linked(link(1000, 1, 1))
	worst.Set = span(-3600, 3600)
	expectOff(t, works(1, span(-3600, 3600), worst), 0, 8000, gust(), span(-3600-3600-3600, 3600+3600))
	expectOff(t, works(3600, span(-3600, 3600), worst), 0, 10799, span(-10000, 10000), span(-7199-3600-3600, 1+3600))
}

// checkOff fails unless Off and Reach return what some truths have as the ends.
func checkOff(t *testing.T, s setting, least, greatest api.DialTruth) {
	t.Helper()
	expectOff(t, s.works, s.face, s.at, s.wind, span(offOf(s.works, s.at, least), offOf(s.works, s.at, greatest)))
	expectReach(t, s, least, greatest)
}

// P4.3, P4.4, P4.10

func TestOffAndReachAgainstAllTruths(t *testing.T) {
	for s := range settings(2, 3000, few()) {
		least, greatest := s.extremes(s.all())
		checkOff(t, s, least, greatest)
	}
}

func TestOffAndReachAgainstAllCorners(t *testing.T) {
	for s := range settings(3, 100, many()) {
		least, greatest := s.extremes(s.corners())
		checkOff(t, s, least, greatest)
	}
	for _, w := range goodWorks()[:30] {
		for _, wind := range goodWinds() {
			for _, at := range numbers(0, 1800, 3599, api.MaxTime) {
				s := setting{w, len(w.Faces) - 1, at, wind}
				least, greatest := s.extremes(s.corners())
				checkOff(t, s, least, greatest)
			}
		}
	}
}

// P4.12

func TestHalfADayLater(t *testing.T) {
	r := seeded(4)
	for _, size := range []size{few(), many()} {
		for s := range settings(5, 300, size) {
			later := s
			later.at += api.HalfDay * (1 + r.IntN((api.MaxTime-s.at)/api.HalfDay+1))
			if later.at > api.MaxTime {
				continue
			}
			off, _ := dial.Off(s.works, s.face, s.at, s.wind)
			expectOff(t, later.works, later.face, later.at, later.wind, off)
			shows, _ := dial.Shows(s.works, s.face, s.at, s.wind)
			expectShows(t, later.works, later.face, later.at, later.wind, shows...)
			least, _ := dial.Reach(s.works, s.face, s.at, s.wind, false)
			greatest, _ := dial.Reach(s.works, s.face, s.at, s.wind, true)
			expectReach(t, later, least, greatest)
		}
	}
	for half := range 2 * api.MaxDays {
		expectOff(t, church(), 0, half*api.HalfDay, gust(), span(-48, 0))
	}
}
