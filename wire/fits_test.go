package wire_test

import (
	"slices"
	"testing"
)

// P8.3

func TestFits(t *testing.T) {
	expectFits(t, town(2), span(100, 101))
	expectFits(t, town(40))
	expectFits(t, town(40).without(2), span(100, 101))
	expectFits(t, town(40).without(0, 1), span(136, 141))
	expectFits(t, town(40).without(1))
	expectFits(t, town(2).without(0), span(100, 103))
	expectFits(t, town(2).without(1, 2), span(100, 101))
	// Near cuts them, or leaves none.
	expectFits(t, town(2).around(span(101, 200)), single(101))
	expectFits(t, town(2).around(single(100)), single(100))
	expectFits(t, town(2).around(span(0, 99)))
	expectFits(t, town(2).around(span(102, 7200)))
	expectFits(t, town(2).around(span(-7200, 7200)), span(100, 101))
}

func TestFitsWithoutNotes(t *testing.T) {
	for _, near := range spans(span(-7200, 7200), span(-5, 5), single(0), single(7200)) {
		expectFits(t, town(2).without(0, 1, 2).around(near), near)
	}
	// Sources without notes are right with all corrections.
	q := ask(slices.Concat(signals(8), sources(plain(single(0)))), span(-20, 20), note(3, 100, 107))
	expectFits(t, q, single(7))
	expectFits(t, q.and(note(8, 100, 107)), single(7))
	expectFits(t, q.and(note(8, 100, 108)))
}

func TestEqualNotes(t *testing.T) {
	q := town(2)
	for _, n := range q.l {
		expectFits(t, q.and(n, n, n), span(100, 101))
	}
	expectFits(t, q.and(slices.Repeat(q.l, 19)...), span(100, 101))
	expectFits(t, ask(signals(1), span(-20, 20), slices.Repeat(notes(note(0, 100, 107)), 60)...), single(7))
}

// A source with several notes is right if all of them are.
func TestSeveralNotesOfASource(t *testing.T) {
	near := span(-20, 20)
	w := sources(signal(span(0, 5)))
	expectFits(t, ask(w, near, note(0, 100, 100), note(0, 200, 203)), span(3, 5))
	expectFits(t, ask(w, near, note(0, 100, 100), note(0, 200, 203), note(0, 300, 298)), single(3))
	expectFits(t, ask(w, near, note(0, 100, 100), note(0, 200, 206)))
	expectFits(t, ask(w, near, note(0, 200, 206), note(0, 100, 100)))
	// A clock that drifts can be slow at first, and fast later.
	c := sources(clock(span(-1, 1), 0, span(-2000, 2000)))
	expectFits(t, ask(c, near, note(0, 100, 100), note(0, 86400, 3)), span(0, 2))
	expectFits(t, ask(c, near, note(0, 100, 102), note(0, 86400, 43197)), span(0, 1))
	expectFits(t, ask(c, near, note(0, 100, 103), note(0, 86400, 43197)), single(1))
	expectFits(t, ask(c, near, note(0, 100, 104), note(0, 86400, 43197)))
}

// What fits need not be one span.
func TestFitsOfSeveralSpans(t *testing.T) {
	near := span(-20, 20)
	w := sources(event(span(0, 3), 0, 10), event(span(-1, 1), 0, 7), signal(span(-12, 12)))
	expectFits(t, ask(w, near, note(0, 1000, 0)), span(-20, -17), span(-10, -7), span(0, 3), span(10, 13), single(20))
	expectFits(t, ask(w, near, note(0, 1000, 0), note(2, 1000, 1000)), span(-10, -7), span(0, 3), span(10, 12))
	expectFits(t, ask(w, near, note(0, 1000, 0), note(1, 1001, 0)), single(-20), span(-8, -7), span(0, 1), single(13), single(20))
	// Between two spans there is one correction, and none.
	pair := sources(event(span(0, 8), 0, 10), event(span(0, 9), 0, 10))
	expectFits(t, ask(pair, near, note(0, 1000, 0)), span(-20, -12), span(-10, -2), span(0, 8), span(10, 18), single(20))
	expectFits(t, ask(pair, near, note(1, 1000, 0)), near)
	expectFits(t, ask(pair, near, note(0, 1000, 0), note(0, 1005, 0)), span(-20, -17), span(-15, -12), span(-10, -7), span(-5, -2), span(0, 3), span(5, 8), span(10, 13), span(15, 18), single(20))
}

func TestAsManySourcesAndNotes(t *testing.T) {
	q := ask(signals(10), span(-7200, 7200))
	for n := range 60 {
		q.l = append(q.l, note(n%10, 50000+n, 50100+n))
	}
	expectFits(t, q, single(100))
	expectPairs(t, q)
	expectMost(t, q, 10, single(100))
	q.l[59].Said++
	expectFits(t, q)
	expectMost(t, q, 9, single(100))
	expectWrong(t, q, numbers(9))
	expectConvict(t, q, 9)
	expectStretch(t, q, 9, 1)
}

func TestAgainstAllSets(t *testing.T) {
	fit, apart, convicted := 0, 0, 0
	for x := range trials(20, 4000, 3) {
		want := x.answer()
		expectFits(t, x.question, want.fits...)
		expectPairs(t, x.question, want.pairs...)
		expectMost(t, x.question, want.most, want.at...)
		expectWrong(t, x.question, want.wrong...)
		expectVerdict(t, x.question, want)
		if t.Failed() {
			t.Fatalf("of %v", x)
		}
		if len(want.fits) > 0 {
			fit++
		}
		apart += len(want.pairs)
		if len(want.fits) == 0 && len(want.guilty) == 1 {
			convicted++
		}
	}
	if fit < 500 || apart < 500 || convicted < 300 {
		t.Errorf("only %d questions fit, %d pairs are apart, %d sources are convicted", fit, apart, convicted)
	}
}
