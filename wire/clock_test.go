package wire_test

import (
	"testing"

	"turret/api"
)

// P8.2, of clocks

// plain returns a clock without drift that was set at the time 0.
func plain(wrong api.Span) api.WireSource { return clock(wrong, 0, single(0)) }

func TestClocks(t *testing.T) {
	near := span(-20, 20)
	expectSpans(t, plain(single(0)), 1000, 1000, near, single(0))
	expectSpans(t, plain(single(0)), 1000, 1007, near, single(7))
	// A clock that is fast shows a later time than it is.
	expectSpans(t, plain(single(3)), 1000, 1007, near, single(4))
	expectSpans(t, plain(single(-3)), 1000, 1007, near, single(10))
	expectSpans(t, plain(span(-3, 5)), 1000, 1007, near, span(2, 10))
	// It shows the time of half a day.
	for _, half := range numbers(0, 1, 2, 73048, 73049) {
		expectSpans(t, plain(span(-3, 5)), half*43200+1000, 1007, near, span(2, 10))
	}
}

func TestClocksPassTwelve(t *testing.T) {
	near := span(-20, 20)
	for _, twelve := range numbers(43200, 86400, api.MaxTime-43200) {
		expectSpans(t, plain(single(0)), twelve-5, 2, near, single(7))
		expectSpans(t, plain(single(0)), twelve+5, 43198, near, single(-7))
		expectSpans(t, plain(single(0)), twelve, 0, near, single(0))
		expectSpans(t, plain(single(0)), twelve, 43199, near, single(-1))
		expectSpans(t, plain(span(-4, 4)), twelve-5, 2, near, span(3, 11))
		expectSpans(t, plain(span(-4, 4)), twelve+5, 43198, near, span(-11, -3))
		expectSpans(t, plain(span(-4, 4)), twelve, 43199, near, span(-5, 3))
		// It shows the time before 12 while the true one is past it, and the other way round.
		expectSpans(t, plain(single(-9)), twelve+5, 43198, near, single(2))
		expectSpans(t, plain(single(9)), twelve-5, 2, near, single(-2))
		expectSpans(t, plain(span(-3600, 3600)), twelve+3590, 43195, near, span(-20, 5))
		expectSpans(t, plain(span(-3600, 3600)), twelve-3590, 5, near, span(-5, 20))
	}
	// Before the first 12 o'clock there is no time.
	expectSpans(t, plain(span(-4, 4)), 2, 43198, near, span(-2, 0))
	expectSpans(t, plain(span(-4, 4)), 2, 0, near, span(-2, 2))
	expectSpans(t, plain(span(-4, 4)), api.MaxTime-2, 2, near, span(0, 2))
}

// A clock is right only after it was set.
func TestClocksBeforeTheyAreSet(t *testing.T) {
	s := clock(span(-200, 200), 100, single(0))
	expectSpans(t, s, 50, 60, span(-100, 300), span(50, 210))
	expectSpans(t, s, 50, 60, span(-100, 49))
	expectSpans(t, s, 50, 60, single(50), single(50))
	expectSpans(t, s, 100, 60, span(-100, 100), span(0, 100))
	expectSpans(t, s, 99, 60, span(-100, 100), span(1, 100))
	expectSpans(t, s, 101, 60, span(-100, 100), span(-1, 100))
	// Drift is counted from then on: it is none yet.
	fast := clock(single(0), 100, single(100000))
	expectSpans(t, fast, 95, 100, span(-20, 20), single(5))
	expectSpans(t, fast, 95, 99, span(-20, 20))
	expectSpans(t, fast, 95, 101, span(-20, 20), single(6))
	expectSpans(t, fast, 95, 102, span(-20, 20), span(6, 7))
	last := clock(span(-5, 5), api.MaxTime, span(-100000, 100000))
	expectSpans(t, last, api.MaxTime, 3, span(-20, 20), single(0))
	expectSpans(t, last, api.MaxTime, 6, span(-20, 20))
	expectSpans(t, last, api.MaxTime-20, 43195, span(-20, 20), single(20))
	expectSpans(t, last, api.MaxTime-20, 43194, span(-20, 20))
	expectSpans(t, last, api.MaxTime-21, 3, span(-20, 20))
}

// Drifts are rounded down for the slowest clock, and up for the fastest one.
func TestDriftsAreRounded(t *testing.T) {
	near := span(-3, 3)
	// For each drift: by how much the clock can be fast so long after it was set.
	for _, c := range []struct {
		drift api.Span
		after int
		want  api.Span
	}{
		{single(0), 86400, single(0)},
		{single(1), 5, span(0, 1)}, {single(-1), 5, span(-1, 0)}, {span(-1, 1), 5, span(-1, 1)},
		{single(1000), 86399, span(0, 1)}, {single(1000), 86400, single(1)}, {single(1000), 86401, span(1, 2)},
		{single(-1000), 86399, span(-1, 0)}, {single(-1000), 86400, single(-1)}, {single(-1000), 86401, span(-2, -1)},
		{span(-1000, 1000), 86399, span(-1, 1)}, {span(-1000, 1000), 86400, span(-1, 1)}, {span(-1000, 1000), 86401, span(-2, 2)},
		{span(-2000, -1000), 86400, span(-2, -1)}, {span(-2000, -1000), 86401, span(-3, -1)}, {span(-2000, -1000), 86399, span(-2, 0)},
		{span(1000, 2000), 86400, span(1, 2)}, {span(1000, 2000), 86401, span(1, 3)}, {span(1000, 2000), 86399, span(0, 2)},
		{span(0, 2000), 86399, span(0, 2)}, {span(0, 2000), 86401, span(0, 3)}, {span(-2000, 0), 86401, span(-3, 0)},
		{single(500), 86400, span(0, 1)}, {single(500), 172800, single(1)}, {single(-500), 86400, span(-1, 0)},
		{single(1500), 86400, span(1, 2)}, {single(-1500), 86400, span(-2, -1)},
		{single(100000), 864, single(1)}, {single(100000), 863, span(0, 1)}, {single(-100000), 865, span(-2, -1)},
		{single(1), 86400000, single(1)}, {single(1), 86399999, span(0, 1)}, {single(1), 86400001, span(1, 2)}, {single(-1), 86400001, span(-2, -1)},
	} {
		for _, set := range numbers(0, 43200, 777600) {
			at := set + c.after
			s := clock(single(0), set, c.drift)
			wrong := clock(span(-2, 3), set, c.drift)
			for fast := c.want.Low - 4; fast <= c.want.High+4; fast++ {
				said := (at + fast + 43200) % 43200
				expectOnly(t, s, at, said, near, fast >= c.want.Low && fast <= c.want.High)
				expectOnly(t, wrong, at, said, near, fast >= c.want.Low-2 && fast <= c.want.High+3)
			}
		}
	}
}

// expectOnly fails unless a note is right without a correction just if it should be.
func expectOnly(t *testing.T, s api.WireSource, tick, said int, near api.Span, right bool) {
	t.Helper()
	if right {
		expectSpans(t, s, tick, said, single(0), single(0))
	} else {
		expectSpans(t, s, tick, said, single(0))
	}
	q := ask(sources(s), near, note(0, tick, said))
	expectSpans(t, s, tick, said, near, q.answer().fits...)
}

// The greatest drifts after the longest time: 3652500 seconds are 84 half days and 23700 seconds.
func TestGreatestDrifts(t *testing.T) {
	near := span(-10, 10)
	fast, slow := clock(single(0), 0, single(100000)), clock(single(0), 0, single(-100000))
	expectSpans(t, fast, api.MaxTime, 23700, near, single(0))
	expectSpans(t, fast, api.MaxTime, 23699, near, single(-1))
	expectSpans(t, fast, api.MaxTime-1, 23700, near, single(1))
	// A second before, they are fast and slow by a little less, rounded down and up.
	expectSpans(t, slow, api.MaxTime, 43200-23700, near, span(-1, 0))
	expectSpans(t, slow, api.MaxTime, 43200-23700-1, near, span(-2, -1))
	expectSpans(t, slow, api.MaxTime, 43200-23700+1, near)
	expectSpans(t, fast, api.MaxTime, 23698, near, span(-2, -1))
	expectSpans(t, fast, api.MaxTime, 23701, near)
	expectSpans(t, clock(single(3600), 0, single(100000)), api.MaxTime, 27300, near, single(0))
	expectSpans(t, clock(single(-3600), 0, single(-100000)), api.MaxTime, 15900, near, span(-1, 0))
	// Who can show anything is right, from when it was set to the last time.
	anything := clock(single(0), 0, span(-100000, 100000))
	expectSpans(t, anything, api.MaxTime, 12345, near, span(-10, 0))
	expectSpans(t, anything, api.MaxTime-10, 0, near, near)
}

// From when on a clock can show anything.
func TestClocksThatCanShowAnything(t *testing.T) {
	// After 360 days the clock is fast by 0 to 36000; with its error these are 43201 numbers, one more than a dial shows.
	day := 360 * 86400
	s := clock(span(-3600, 3600), 0, span(0, 100000))
	for _, said := range numbers(0, 1, 20000, 39599, 39600, 39601, 43199) {
		expectSpans(t, s, day, said, single(0), single(0))
	}
	one := clock(span(-3599, 3600), 0, span(0, 100000))
	for _, said := range numbers(0, 1, 20000, 39599, 39600, 39601, 43199) {
		expectSpans(t, one, day, said, single(0), single(0))
	}
	// With two less it cannot show one of them, 3600 seconds before the true time.
	two := clock(span(-3599, 3599), 0, span(0, 100000))
	for _, said := range numbers(0, 1, 20000, 39599, 39601, 43199) {
		expectSpans(t, two, day, said, single(0), single(0))
	}
	expectSpans(t, two, day, 39600, single(0))
	expectSpans(t, two, day, 39600, span(-2000, 2000), span(-2000, -1), span(1, 2000))
}
