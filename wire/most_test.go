package wire_test

import (
	"testing"
)

// P8.5

func TestMost(t *testing.T) {
	expectMost(t, town(2), 3, span(100, 101))
	expectMost(t, town(40), 2, span(100, 101))
	expectMost(t, town(40).without(0), 2, span(100, 103), span(136, 141))
	expectMost(t, town(40).without(1), 2, span(100, 101), span(136, 141))
	expectMost(t, town(40).without(2), 3, span(100, 101))
	expectMost(t, town(40).without(0, 1), 3, span(136, 141))
	expectMost(t, town(40).without(0, 1, 2), 3, span(0, 200))
	near := span(-20, 20)
	expectMost(t, wanted(near, 7, 3, 7, 3, 7), 3, single(7))
	expectMost(t, wanted(near, 7, 3, 7, 3, 3), 3, single(3))
}

// Sources without notes are right.
func TestMostWithoutNotes(t *testing.T) {
	expectMost(t, ask(signals(1), single(5)), 1, single(5))
	expectMost(t, ask(signals(10), span(-7200, 7200)), 10, span(-7200, 7200))
	expectMost(t, ask(signals(4), span(-20, 20), note(2, 100, 107)), 4, single(7))
	expectMost(t, ask(signals(4), span(-20, 20), note(2, 100, 107), note(0, 100, 103)), 3, single(3), single(7))
	expectMost(t, ask(signals(4), span(-20, 20), note(2, 100, 157), note(0, 100, 103)), 3, single(3))
	expectMost(t, ask(signals(4), span(-20, 20), note(2, 100, 157)), 3, span(-20, 20))
}

func TestTiesInMost(t *testing.T) {
	near := span(-20, 20)
	expectMost(t, wanted(near, 7, 3), 1, single(3), single(7))
	expectMost(t, wanted(near, 7, 8), 1, span(7, 8))
	expectMost(t, wanted(near, 9, 7, 8, 4), 1, single(4), span(7, 9))
	expectMost(t, wanted(near, -20, 20), 1, single(-20), single(20))
	expectMost(t, wanted(near, 7, 3, 7, 3), 2, single(3), single(7))
	expectMost(t, wanted(near, 7, 3, 7, 3, 1), 2, single(3), single(7))
	// Other sources are right with a correction and the next one: the spans are one.
	w := sources(signal(span(0, 4)), signal(span(5, 9)), signal(span(0, 9)), signal(span(6, 7)))
	q := ask(w, near, note(0, 100, 100), note(1, 100, 100), note(2, 100, 100))
	expectMost(t, q, 3, span(0, 9))
	expectMost(t, q.and(note(3, 100, 100)), 3, span(6, 7))
	expectMost(t, q.and(note(3, 100, 106)), 2, span(0, 9))
	expectMost(t, q.and(note(3, 100, 103)), 3, single(9))
	expectMost(t, q.without(2).and(note(3, 100, 102)), 3, span(8, 9))
}

// With none of near a source is right: then it is no source with all of near.
func TestMostOfNone(t *testing.T) {
	for _, near := range spans(span(-20, 20), single(0), span(-7200, 29), span(32, 7200)) {
		expectMost(t, wanted(near, 30), 0, near)
		expectMost(t, wanted(near, 30, 31, 30), 0, near)
		expectMost(t, ask(signals(2), near, note(0, 100, 130), note(1, 100, 131)), 0, near)
	}
}
