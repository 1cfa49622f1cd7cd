package wire_test

import (
	"slices"
	"testing"

	"turret/api"
	"turret/wire"
)

// P8.2

func TestSpans(t *testing.T) {
	q := town(2)
	near := q.near
	expectSpans(t, q.w[0], 3500, 0, near, span(100, 101))
	expectSpans(t, q.w[1], 7000, 7098, near, span(100, 103))
	expectSpans(t, q.w[2], 86300, 2, near, span(99, 103))
	expectSpans(t, q.w[2], 86300, 40, near, span(136, 141))
	// Near has to have them.
	expectSpans(t, q.w[0], 3500, 0, span(0, 99))
	expectSpans(t, q.w[0], 3500, 0, span(102, 200))
	expectSpans(t, q.w[0], 3500, 0, single(100), single(100))
	expectSpans(t, q.w[0], 3500, 0, single(101), single(101))
	expectSpans(t, q.w[0], 3500, 0, span(101, 200), single(101))
	expectSpans(t, q.w[0], 3500, 0, span(-7200, 100), single(100))
	expectSpans(t, q.w[0], 3500, 0, span(-7200, 7200), span(100, 101))
}

// Corrections at both ends of near, and at those of the widest one.
func TestCorrectionsAtTheEnds(t *testing.T) {
	for _, end := range numbers(-7200, -7199, -5, 0, 5, 7199, 7200) {
		s := signal(single(0))
		for _, near := range spans(span(-7200, 7200), span(max(-7200, end-3), end), span(end, min(7200, end+3)), single(end)) {
			expectSpans(t, s, 50000, 50000+end, near, single(end))
		}
	}
	expectSpans(t, signal(span(-3600, 3600)), 50000, 50000, span(-7200, 7200), span(-3600, 3600))
	expectSpans(t, signal(span(-3600, 3600)), 50000, 53600, span(-7200, 7200), span(0, 7200))
	expectSpans(t, signal(span(-3600, 3600)), 50000, 53601, span(-7200, 7200), span(1, 7200))
	expectSpans(t, signal(span(-3600, 3600)), 50000, 46400, span(-7200, 7200), span(-7200, 0))
	expectSpans(t, signal(span(-3600, 3600)), 50000, 46399, span(-7200, 7200), span(-7200, -1))
	expectSpans(t, signal(single(0)), 50000, 57201, span(-7200, 7200))
	expectSpans(t, signal(single(0)), 50000, 42799, span(-7200, 7200))
}

// A signal is late by its error.
func TestSignals(t *testing.T) {
	near := span(-20, 20)
	expectSpans(t, signal(single(0)), 1000, 1000, near, single(0))
	expectSpans(t, signal(single(7)), 1000, 1000, near, single(7))
	expectSpans(t, signal(single(-7)), 1000, 1000, near, single(-7))
	expectSpans(t, signal(span(-3, 4)), 1000, 1000, near, span(-3, 4))
	expectSpans(t, signal(span(-3, 4)), 1000, 990, near, span(-13, -6))
	expectSpans(t, signal(span(2, 4)), 0, 3, near, span(5, 7))
	// What it says is not the time of a dial.
	expectSpans(t, signal(single(0)), 43205, 5, near)
	expectSpans(t, signal(single(0)), 43205, 43206, near, single(1))
}

// The true time is from 0 to MaxTime, whatever the source.
func TestTheFirstAndTheLastTime(t *testing.T) {
	near, wide := span(-10, 10), span(-3600, 3600)
	// At the time MaxTime it is 12 o'clock.
	for _, s := range sources(clock(wide, 0, single(0)), event(wide, 0, 86400), sun(wide, 0), signal(wide)) {
		said := 0
		if s.Kind == api.WireSignal {
			said = api.MaxTime
		}
		expectSpans(t, s, 0, 0, near, span(0, 10))
		expectSpans(t, s, 5, 0, near, span(-5, 10))
		expectSpans(t, s, 10, 0, near, near)
		expectSpans(t, s, 0, 0, span(-10, -1))
		expectSpans(t, s, 0, 0, span(-7200, 0), single(0))
		expectSpans(t, s, api.MaxTime, said, near, span(-10, 0))
		expectSpans(t, s, api.MaxTime-5, said, near, span(-10, 5))
		expectSpans(t, s, api.MaxTime-10, said, near, near)
		expectSpans(t, s, api.MaxTime, said, span(1, 10))
		expectSpans(t, s, api.MaxTime, said, span(0, 7200), single(0))
	}
	exact := single(0)
	for _, s := range sources(clock(exact, 0, single(0)), event(exact, 0, 86400), sun(exact, 0), signal(exact)) {
		said := 0
		if s.Kind == api.WireSignal {
			said = api.MaxTime
		}
		for n := range 11 {
			expectSpans(t, s, n, 0, near, single(-n))
			expectSpans(t, s, api.MaxTime-n, said, near, single(n))
		}
	}
	// One beyond is never right.
	late, early := single(-1), single(1)
	for _, s := range sources(clock(early, 0, single(0)), event(late, 0, 86400), sun(late, 0), signal(late)) {
		expectSpans(t, s, 0, 0, near)
		expectSpans(t, s, 0, 0, single(-1))
	}
	for _, s := range sources(clock(late, 0, single(0)), event(early, 0, 86400), sun(early, 0)) {
		expectSpans(t, s, api.MaxTime, 0, near)
		expectSpans(t, s, api.MaxTime, 0, single(1))
	}
	expectSpans(t, signal(early), api.MaxTime, api.MaxTime, near)
	expectSpans(t, signal(early), api.MaxTime, api.MaxTime-1, near, single(0))
}

func TestSpansAgainstAllErrors(t *testing.T) {
	kinds := map[api.WireKind]int{}
	for x := range trials(10, 3000, 3) {
		for _, n := range x.l {
			want := ask(x.w, x.near, n).answer().fits
			got, e := wire.Spans(x.w, n, x.near)
			if !slices.Equal(got, want) || e != api.OK {
				t.Fatalf("Spans(%v, %v, %v) = %v, %v; want %v", x.w[n.Source], n, x.near, got, e, want)
			}
			if len(want) > 1 || len(want) == 1 && want[0] != x.near {
				kinds[x.w[n.Source].Kind]++
			}
		}
	}
	for kind := api.WireClock; kind <= api.WireSignal; kind++ {
		if kinds[kind] < 500 {
			t.Errorf("only %d notes of the kind %v are right with some corrections alone", kinds[kind], kind)
		}
	}
}

// The widest near.
func TestSpansOfWideNear(t *testing.T) {
	r := seeded(11)
	for range 40 {
		s := randomScene(r)
		w := s.source(r)
		n, ok := s.note(r, w, 0, r.IntN(14401)-7200)
		if !ok {
			continue
		}
		q := ask(sources(w), span(-7200, 7200), n)
		expectSpans(t, w, n.Tick, n.Said, q.near, q.answer().fits...)
	}
}
