package wire_test

import (
	"testing"

	"turret/api"
)

// P8.8, P8.12

func TestStretch(t *testing.T) {
	expectStretch(t, town(40), 2, 35)
	for source := range 3 {
		expectStretch(t, town(2), source, 0)
	}
	// The ball, stretched to both sides, must come to 136, where the wire is wrong.
	expectStretchError(t, town(40), 0, api.ErrState)
	expectStretchError(t, town(40), 1, api.ErrState)
	expectStretch(t, town(40).without(1), 0, 35)
	expectStretch(t, town(40).without(0), 1, 33)
	expectStretch(t, town(40).without(0, 1), 2, 0)
	expectStretch(t, town(40).without(2), 2, 0)
	// Near can leave less than the best correction.
	expectStretch(t, town(40).around(single(100)), 2, 37)
	expectStretch(t, town(40).around(span(101, 7200)), 2, 35)
	expectStretchError(t, town(40).around(span(102, 7200)), 2, api.ErrState)
}

func TestStretchOfNoSource(t *testing.T) {
	for _, n := range append(wild(), -1, 3, 4, 9, 10) {
		expectStretchError(t, town(2), n, api.ErrNone)
		expectStretchError(t, town(40), n, api.ErrNone)
		expectStretchError(t, town(2).without(0, 1, 2), n, api.ErrNone)
		expectStretchError(t, town(2).around(span(1, 0)), n, api.ErrRange)
		expectStretchError(t, town(2).and(note(3, 0, 0)), n, api.ErrNone)
		expectStretchError(t, town(2).and(note(0, -1, 0)), n, api.ErrArg)
	}
}

// Sources without notes need not be wider, and cannot help others.
func TestStretchWithoutNotes(t *testing.T) {
	for source := range 10 {
		expectStretch(t, ask(signals(10), single(0)), source, 0)
	}
	q := ask(signals(4), span(-20, 20), note(1, 100, 105), note(3, 100, 109))
	expectStretchError(t, q, 0, api.ErrState)
	expectStretchError(t, q, 2, api.ErrState)
	expectStretch(t, q, 1, 4)
	expectStretch(t, q, 3, 4)
	expectStretch(t, q.without(1), 0, 0)
	expectStretch(t, q.without(1), 3, 0)
}

// The greatest stretch, and one more, with each kind, to both sides; the Error may be any.
func TestGreatestStretch(t *testing.T) {
	const noon = 10 * 86400
	for _, wrong := range spans(single(0), span(-5, 7), single(3600), single(-3600), span(-3600, 3600)) {
		for _, by := range numbers(0, 1, 2, 9999, 10000, 10001, 10002) {
			late, early := noon+wrong.High+by, noon+wrong.Low-by
			for _, s := range sources(event(wrong, 3*86400, 86400), sun(wrong, 0), signal(wrong)) {
				said := 0
				if s.Kind == api.WireSignal {
					said = noon
				}
				expectStretchAt(t, s, late, said, by)
				expectStretchAt(t, s, early, said, by)
				expectStretchAt(t, event(wrong, noon, 86400), early, 0, by)
			}
			// A clock is early if it is fast.
			expectStretchAt(t, plain(wrong), noon-wrong.High-by, 0, by)
			expectStretchAt(t, plain(wrong), noon-wrong.Low+by, 0, by)
		}
	}
	expectStretchAt(t, sun(single(3600), 3600), 7200+10000, 0, 10000)
	expectStretchAt(t, sun(single(3600), 3600), 7200+10001, 0, 10001)
	expectStretchAt(t, sun(single(-3600), -3600), 86400-7200-10000, 0, 10000)
	expectStretchAt(t, sun(single(-3600), -3600), 86400-7200-10001, 0, 10001)
}

// expectStretchAt fails unless a source whose note is at a true time needs such a stretch.
func expectStretchAt(t *testing.T, s api.WireSource, at, said, want int) {
	t.Helper()
	q := ask(sources(s, signal(single(0))), single(-100), note(0, at+100, said))
	if want > api.MaxWireStretch {
		expectStretchError(t, q, 0, api.ErrState)
	} else {
		expectStretch(t, q, 0, want)
	}
}

// The nearest one decides: of the noons of two days, of the events before and after, and of both ways round a dial.
func TestNearestStretch(t *testing.T) {
	// The sun.
	table := sun(span(-10, 20), 3000, -3000)
	expectStretchAt(t, table, 3000, 0, 0)
	expectStretchAt(t, table, 0, 0, 2990)
	expectStretchAt(t, table, 86400-3000-5000, 0, 4990)
	expectStretchAt(t, table, 86400-3000+5000, 0, 4980)
	expectStretchAt(t, table, 2*86400, 0, 2990)
	expectStretchAt(t, table, 43200, 0, 10001)
	// Events.
	bell := event(span(0, 5), 1000, 600)
	expectStretchAt(t, bell, 1000, 0, 0)
	expectStretchAt(t, bell, 1005, 0, 0)
	expectStretchAt(t, bell, 1006, 0, 1)
	expectStretchAt(t, bell, 999, 0, 1)
	expectStretchAt(t, bell, 0, 0, 1000)
	expectStretchAt(t, bell, 1302, 0, 297)
	expectStretchAt(t, bell, 1303, 0, 297)
	expectStretchAt(t, bell, 1301, 0, 296)
	expectStretchAt(t, bell, 1304, 0, 296)
	expectStretchAt(t, bell, 1000+600000+303, 0, 297)
	for _, s := range sources(event(single(0), 0, 1), event(span(0, 9), 0, 10), event(span(-50, 50), 0, 10)) {
		expectStretchAt(t, s, 12345, 0, 0)
	}
	expectStretchAt(t, event(single(0), 5000, 1), 4000, 0, 1000)
	expectStretchAt(t, event(span(-5, 900), 5000, 1), 4000, 0, 995)
	expectStretchAt(t, event(span(10, 900), 5000, 1), 4000, 0, 1010)
	expectStretchAt(t, event(single(0), 0, 20000), 50000, 0, 10000)
	expectStretchAt(t, event(single(0), 0, 20001), 20001+10000, 0, 10000)
	expectStretchAt(t, event(single(0), 0, 20001), 20001+10001, 0, 10000)
	expectStretchAt(t, event(single(0), 0, 20002), 20002+10001, 0, 10001)
	expectStretchAt(t, event(span(0, 1), 0, 20002), 20002+10001, 0, 10000)
	// Clocks.
	expectStretchAt(t, plain(span(-2, 3)), 43200+43000, 5, 202)
	expectStretchAt(t, plain(span(-2, 3)), 43200+5, 43000, 203)
	expectStretchAt(t, plain(span(-2, 3)), 1000, 1004, 1)
	expectStretchAt(t, plain(span(-2, 3)), 1000, 997, 1)
	expectStretchAt(t, plain(span(-3600, 3600)), 20000, 20000+13600, 10000)
	expectStretchAt(t, plain(span(-3600, 3600)), 20000, 20000+13601, 10001)
	expectStretchAt(t, plain(span(-3600, 3600)), 20000, 20000-13600, 10000)
	expectStretchAt(t, plain(span(-3600, 3600)), 20000, 20000-13601, 10001)
	// The error of a clock is widened, not its drift.
	expectStretchAt(t, clock(span(-1, 1), 0, span(-3000, 2000)), 86400, 10, 7)
	expectStretchAt(t, clock(span(-1, 1), 0, span(-3000, 2000)), 86400, 43190, 6)
	expectStretchAt(t, clock(span(-1, 1), 0, span(-3000, 2000)), 86401, 11, 6)
}

// No stretch helps a note at a time that there is not, or of a clock that was not set yet.
func TestStretchNeverHelps(t *testing.T) {
	wide := span(-3600, 3600)
	for _, s := range sources(plain(wide), event(wide, 0, 1), sun(wide, 0), signal(wide)) {
		said := 0
		if s.Kind == api.WireSignal {
			said = api.MaxTime
		}
		expectStretchError(t, ask(sources(s), single(-1), note(0, 0, 0)), 0, api.ErrState)
		expectStretchError(t, ask(sources(s), span(-7200, -1), note(0, 0, 0)), 0, api.ErrState)
		expectStretchError(t, ask(sources(s), span(1, 7200), note(0, api.MaxTime, said)), 0, api.ErrState)
		expectStretch(t, ask(sources(s), span(-7200, 0), note(0, 0, 0)), 0, 0)
		expectStretch(t, ask(sources(s), span(0, 7200), note(0, api.MaxTime, said)), 0, 0)
	}
	set := clock(wide, 1000, single(0))
	expectStretchError(t, ask(sources(set), single(-1), note(0, 1000, 1000)), 0, api.ErrState)
	expectStretch(t, ask(sources(set), span(-1, 0), note(0, 1000, 4700)), 0, 100)
	expectStretch(t, ask(sources(set), span(-1, 5), note(0, 1000, 4700)), 0, 95)
}

// All notes of the source have to be right with the same correction.
func TestStretchOfSeveralNotes(t *testing.T) {
	near := span(-20, 20)
	q := ask(signals(2), near, note(0, 100, 100), note(0, 200, 210))
	expectStretch(t, q, 0, 5)
	expectStretch(t, q.and(note(0, 300, 311)), 0, 6)
	expectStretch(t, q.and(note(1, 300, 302)), 0, 8)
	expectStretch(t, q.and(note(1, 300, 312)), 0, 12)
	expectStretchError(t, q.and(note(1, 300, 302)), 1, api.ErrState)
	expectStretchError(t, q.and(note(1, 300, 302), note(1, 400, 403)), 0, api.ErrState)
	expectStretch(t, q.around(span(-20, 3)), 0, 7)
	expectStretch(t, q.around(span(7, 20)), 0, 7)
	expectStretch(t, q.around(single(-10)), 0, 20)
	odd := ask(signals(1), near, note(0, 100, 100), note(0, 200, 211))
	expectStretch(t, odd, 0, 6)
}

// With the Error so much wider all notes fit, with a second less they do not.
func TestStretchedAllFit(t *testing.T) {
	stretched, never := 0, 0
	for x := range trials(40, 2500, 2) {
		for source := range x.w {
			by, e := x.stretch(source)
			switch {
			case e == api.ErrState:
				never++
				if by != 0 || x.width < 10 && x.fit(source, 200) {
					t.Fatalf("Stretch(%v, %d) = %d, %v", x.question, source, by, e)
				}
			case e != api.OK:
				t.Fatalf("Stretch(%v, %d) = %d, %v", x.question, source, by, e)
			case !x.fit(source, by), by > 0 && x.fit(source, by-1):
				t.Fatalf("Stretch(%v, %d) = %d", x.question, source, by)
			case by > 0:
				stretched++
			}
		}
	}
	if stretched < 500 || never < 500 {
		t.Errorf("only %d sources were stretched, %d never", stretched, never)
	}
}

// So Fits says, where the wider Error is allowed.
func TestStretchedFits(t *testing.T) {
	seen := 0
	for x := range trials(41, 4000, 2) {
		for source, s := range x.w {
			by, e := x.stretch(source)
			if e != api.OK || s.Error.Low-by < -3600 || s.Error.High+by > 3600 {
				continue
			}
			if _, e := x.wider(source, by).fits(); e != api.OK {
				t.Fatalf("%v: the source %d is stretched by %d, and nothing fits", x.question, source, by)
			}
			if by > 0 {
				seen++
				expectFits(t, x.wider(source, by-1))
				expectStretch(t, x.wider(source, by-1), source, 1)
				expectStretch(t, x.wider(source, by), source, 0)
			}
		}
	}
	if seen < 500 {
		t.Errorf("only %d sources were stretched", seen)
	}
}
