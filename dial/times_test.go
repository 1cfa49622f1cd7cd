package dial_test

import (
	"slices"
	"testing"

	"turret/api"
	"turret/dial"
)

// P4.6

func TestTimes(t *testing.T) {
	near := span(500, 700)
	expectTimes(t, church(), readAll(600), near, breeze(), span(597, 631))
	expectTimes(t, church(), readAll(600, 582), near, breeze())
	expectTimes(t, church(), readAll(582), near, breeze())
	expectTimes(t, church(), readAll(582), near, gust(), span(597, 631))
	expectTimes(t, church(), readAll(600, 582), near, gust(), span(597, 631))
	// No reading, and the same one again.
	expectTimes(t, church(), nil, near, breeze(), near)
	expectTimes(t, church(), readings(), near, breeze(), near)
	expectTimes(t, church(), readAll(600, 600, 600), near, breeze(), span(597, 631))
	// Near cuts the times, or leaves none.
	expectTimes(t, church(), readAll(600), span(600, 610), breeze(), span(600, 610))
	expectTimes(t, church(), readAll(600), single(597), breeze(), single(597))
	expectTimes(t, church(), readAll(600), single(631), breeze(), single(631))
	expectTimes(t, church(), readAll(600), span(500, 597), breeze(), single(597))
	expectTimes(t, church(), readAll(600), span(631, 700), breeze(), single(631))
	expectTimes(t, church(), readAll(600), span(500, 596), breeze())
	expectTimes(t, church(), readAll(600), span(632, 700), breeze())
	// A rising hand hangs back.
	expectTimes(t, church(), readAll(2382), span(2000, 2500), breeze(), span(2397, 2431))
	expectTimes(t, church(), readAll(2400), span(2000, 2500), breeze())
	expectTimes(t, church(), readAll(2400), span(2000, 2500), span(20, 25), span(2397, 2431))
	// A clock that is right, with hands that were set.
	expectTimes(t, right(set(span(-7, 4))), readAll(600), near, breeze(), span(596, 607))
	expectTimes(t, right(set(span(-7, 4))), readAll(600, 605), near, breeze(), span(601, 607))
	expectTimes(t, right(set(span(-7, 4))), readAll(600, 611), near, breeze(), single(607))
	expectTimes(t, right(set(span(-7, 4))), readAll(600, 612), near, breeze())
}

func TestTimesOfSeveralSpans(t *testing.T) {
	// The hands of the first dial hang back by anything up to 72 seconds: it can have been driven to several places.
	slow := linked(link(20, 1, 1))
	w := works(60, single(0), slow, linked(), set(single(60)))
	expectTimes(t, w, readings(read(0, 590)), span(0, 1000), span(-1000, 1000), span(600, 719))
	expectTimes(t, w, readings(read(0, 588)), span(0, 1000), span(-1000, 1000), span(600, 719))
	expectTimes(t, w, readings(read(0, 600)), span(0, 1000), span(-1000, 1000), span(600, 719))
	expectTimes(t, w, readings(read(0, 590), read(1, 660)), span(0, 1000), span(-1000, 1000), span(660, 719))
	expectTimes(t, w, readings(read(0, 590), read(2, 720)), span(0, 1000), span(-1000, 1000), span(660, 719))
	expectTimes(t, w, readings(read(0, 590), read(1, 660), read(2, 660)), span(0, 1000), span(-1000, 1000))
	// Around the half hour: the hand stands at 1780 while it falls, and again 18 seconds later, when it hangs back.
	expectTimes(t, right(plain()), readAll(1790), span(1700, 1900), breeze(), single(1790), single(1808))
	expectTimes(t, works(2, single(0), plain()), readAll(1790), span(1700, 1900), breeze(), span(1790, 1791), span(1808, 1809))
	expectTimes(t, works(2, span(-1, 0), plain()), readAll(1790), span(1700, 1900), breeze(), span(1790, 1792), span(1808, 1810))
	expectTimes(t, works(2, span(-9, 5), plain()), readAll(1790), span(1700, 1900), breeze(), span(1785, 1800), span(1803, 1818))
	// Two seconds between the spans, one and none.
	expectTimes(t, works(2, span(-7, 7), plain()), readAll(1790), span(1700, 1900), breeze(), span(1783, 1798), span(1801, 1816))
	expectTimes(t, works(2, span(-8, 7), plain()), readAll(1790), span(1700, 1900), breeze(), span(1783, 1799), span(1801, 1817))
	expectTimes(t, works(2, span(-7, 8), plain()), readAll(1790), span(1700, 1900), breeze(), span(1782, 1798), span(1800, 1816))
	expectTimes(t, works(2, span(-8, 8), plain()), readAll(1790), span(1700, 1900), breeze(), span(1782, 1817))
	expectTimes(t, works(2, span(-7, 9), plain()), readAll(1790), span(1700, 1900), breeze(), span(1781, 1816))
	expectTimes(t, works(2, span(-8, 9), plain()), readAll(1790), span(1790, 1800), breeze(), span(1790, 1800))
}

// The hands of all dials are driven by one clock: what each reading allows is not enough.
func TestOneClockDrivesAllDials(t *testing.T) {
	w := works(1, span(-5, 5), linked(), linked(), set(span(0, 3)))
	near := span(500, 700)
	expectTimes(t, w, readings(read(0, 600)), near, breeze(), span(595, 605))
	expectTimes(t, w, readings(read(1, 602)), near, breeze(), span(597, 607))
	expectTimes(t, w, readings(read(0, 600), read(1, 602)), near, breeze())
	expectTimes(t, w, readings(read(0, 600), read(2, 602)), near, breeze(), span(595, 605))
	expectTimes(t, w, readings(read(2, 602)), near, breeze(), span(594, 607))
	expectTimes(t, w, readings(read(2, 602), read(2, 604)), near, breeze(), span(596, 607))
	// What is not of the clock may be another for each reading: the wind too.
	expectTimes(t, church(), readAll(582, 590, 600), near, gust(), span(597, 631))
	expectTimes(t, faced(plain(), forced(-30, 10)), readings(read(0, 600), read(1, 582)), near, gust(), span(597, 631))
}

func TestTimesAtTheFirstAndLastTimes(t *testing.T) {
	expectTimes(t, church(), readAll(0), span(0, 100), breeze(), span(0, 31))
	expectTimes(t, church(), readAll(43152), span(0, 100), breeze(), span(0, 1))
	expectTimes(t, church(), readAll(43170), span(0, 100), breeze())
	expectTimes(t, works(1, single(-3600), linked()), readAll(39600), span(0, 7200), breeze(), single(0))
	expectTimes(t, works(1, single(-3600), linked()), readAll(39599), span(0, 7200), breeze())
	expectTimes(t, works(1, single(-3600), linked()), readAll(43199), span(0, 7200), breeze(), single(3599))
	expectTimes(t, church(), readAll(0), span(api.MaxTime-7200, api.MaxTime), breeze(), span(api.MaxTime-3, api.MaxTime))
	expectTimes(t, works(1, single(3600), linked()), readAll(3600), span(api.MaxTime-7200, api.MaxTime), breeze(), single(api.MaxTime))
	expectTimes(t, works(1, single(3600), linked()), readAll(3601), span(api.MaxTime-7200, api.MaxTime), breeze())
	// On both sides of noon.
	expectTimes(t, church(), readAll(0), span(43000, 43300), breeze(), span(43197, 43231))
	expectTimes(t, right(set(span(-7, 4))), readAll(0), span(43000, 43300), breeze(), span(43200, 43207))
}

func TestTimesAgainstAllTruths(t *testing.T) {
	for o, at := range observations(10, 2500, few()) {
		expectTimes(t, o.works, o.readings, o.near, o.wind, o.times(everything)...)
		expectTime(t, o, at)
	}
}

func TestTimesOfWideSpans(t *testing.T) {
	for o, at := range observations(11, 16, many()) {
		expectTimes(t, o.works, o.readings, o.near, o.wind, o.times(turning)...)
		expectTime(t, o, at)
	}
}

// P4.9

// expectTime fails unless a time at which all readings are right, if it is known, is one of Times.
func expectTime(t *testing.T, o observation, at int) {
	t.Helper()
	times, _ := dial.Times(o.works, o.readings, o.near, o.wind)
	if at >= 0 && !contains(times, at) {
		t.Errorf("Times of %v = %v; %d is missing", o, times, at)
	}
}

// P4.11

func TestOneReadingMore(t *testing.T) {
	for _, size := range []size{few(), many()} {
		for o, _ := range observations(12, 100, size) {
			for n := range len(o.readings) {
				before, _ := dial.Times(o.works, o.readings[:n], o.near, o.wind)
				after, _ := dial.Times(o.works, o.readings[:n+1], o.near, o.wind)
				if !isPart(after, before) {
					t.Fatalf("%v: with one reading more than %d the times are %v, not part of %v", o, n, after, before)
				}
			}
		}
	}
}

// isPart reports whether all integers of some spans are in other ones.
func isPart(l, of []api.Span) bool {
	outside := func(s api.Span) bool {
		return !slices.ContainsFunc(of, func(o api.Span) bool { return o.Low <= s.Low && s.High <= o.High })
	}
	return !slices.ContainsFunc(l, outside)
}
