package dial_test

import (
	"slices"
	"testing"

	"turret/api"
	"turret/dial"
)

// goodFaces are valid, and have least and greatest values.
func goodFaces() []api.DialFace {
	list := []api.DialFace{
		plain(), {}, linked(), linked(slices.Repeat(links(link(1, 1, 1)), 4)...),
		linked(link(0, 1, 200), link(0, 200, 1), link(0, 1, 1), link(0, 200, 200)), linked(link(1000, 200, 1), link(1, 1, 200)),
		// A slack of just MaxDialError, and of a little less.
		linked(link(1000, 1, 1)), linked(link(1000, 200, 200)), linked(link(500, 1, 2)), linked(link(5, 1, 200)), linked(link(250, 1, 1), link(250, 1, 1), link(250, 1, 1), link(250, 1, 1)),
		linked(link(1000, 3, 1), link(1000, 3, 1), link(1000, 3, 1)), linked(link(1000, 200, 199), link(1000, 200, 1)), linked(link(999, 1, 1), link(1, 1, 1)), linked(link(999, 1, 1), link(199, 200, 1)),
		linked(link(1000, 7, 1), link(1000, 7, 2), link(1000, 7, 4)),
	}
	for _, s := range spans(single(0), single(-3600), single(3600), span(-3600, 3600), span(-3600, -3599), span(3599, 3600)) {
		list = append(list, set(s))
	}
	for _, n := range numbers(-10000, -9999, 0, 9999, 10000) {
		list = append(list, forced(n, 0), forced(n, 10000), forced(n, 1))
	}
	return list
}

// goodWorks are valid, and have least and greatest values.
func goodWorks() []api.DialWorks {
	list := []api.DialWorks{church(), faced(goodFaces()[:8]...), faced(slices.Repeat([]api.DialFace{plain()}, 8)...), faced(plain(), linked())}
	for _, n := range numbers(1, 2, 3, 4, 15, 16, 30, 60, 225, 400, 720, 900, 1200, 1800, 3600) {
		list = append(list, works(n, span(-2, 3), plain()))
	}
	for _, s := range spans(single(0), single(-3600), single(3600), span(-3600, 3600), span(-3600, -3599), span(3599, 3600)) {
		list = append(list, works(30, s, plain()))
	}
	for _, f := range goodFaces() {
		list = append(list, faced(f), faced(plain(), f), faced(f, plain()))
	}
	return list
}

// goodWinds are valid.
func goodWinds() []api.Span {
	return spans(single(0), breeze(), gust(), single(-10000), single(10000), span(-10000, 10000), span(-10000, -9999), span(9999, 10000))
}

// P4.1

func TestCheckAcceptsWorks(t *testing.T) {
	for _, w := range goodWorks() {
		if e := dial.Check(w); e != api.OK {
			t.Errorf("Check(%v) = %v", w, e)
		}
		_, e := dial.Off(w, len(w.Faces)-1, 0, single(0))
		_, f := dial.Reach(w, 0, 0, single(0), true)
		_, g := dial.Shows(w, 0, 0, single(0))
		_, h := dial.Times(w, nil, single(0), single(0))
		_, i := dial.Pairs(w, nil, single(0), single(0))
		if e != api.OK || f != api.OK || g != api.OK || h != api.OK || i != api.OK {
			t.Errorf("%v: the errors %v, %v, %v, %v, %v", w, e, f, g, h, i)
		}
	}
}

func TestCheckRejectsWorks(t *testing.T) {
	for _, w := range badWorks() {
		if e := dial.Check(w); e != api.ErrArg {
			t.Errorf("Check(%v) = %v", w, e)
		}
	}
}

// The errors of works come first, whatever else is wrong.
func TestErrorsOfWorks(t *testing.T) {
	many := slices.Repeat(readAll(0), 21)
	for _, w := range badWorks() {
		expectFaceErrors(t, w, 0, 0, single(0), api.ErrArg)
		expectFaceErrors(t, w, -1, 0, single(0), api.ErrArg)
		expectFaceErrors(t, w, 9, -1, span(2, 1), api.ErrArg)
		expectReadingErrors(t, w, nil, single(0), single(0), api.ErrArg)
		expectReadingErrors(t, w, readAll(600), single(600), single(0), api.ErrArg)
		expectReadingErrors(t, w, readings(read(9, 0)), single(600), single(0), api.ErrArg)
		expectReadingErrors(t, w, many, single(-1), span(2, 1), api.ErrArg)
	}
}

// The errors of a face

func TestErrorsOfAFace(t *testing.T) {
	two := faced(plain(), linked())
	for _, n := range append(wild(), -1, 2, 8) {
		expectFaceErrors(t, two, n, 600, breeze(), api.ErrNone)
		for _, at := range append(wild(), -1, api.MaxTime+1) {
			expectFaceErrors(t, two, n, at, span(2, 1), api.ErrNone)
		}
	}
	for _, at := range append(wild(), -1, api.MaxTime+1) {
		expectFaceErrors(t, two, 1, at, breeze(), api.ErrRange)
		expectFaceErrors(t, two, 0, at, span(2, 1), api.ErrRange)
		expectFaceErrors(t, two, 0, at, span(-10001, 10001), api.ErrRange)
	}
	for _, wind := range badSpans(-10000, 10000) {
		for _, at := range numbers(0, 600, api.MaxTime) {
			expectFaceErrors(t, two, 0, at, wind, api.ErrArg)
			expectFaceErrors(t, two, 1, at, wind, api.ErrArg)
		}
	}
}

func TestNoErrorsOfAFace(t *testing.T) {
	for _, w := range goodWorks() {
		for _, wind := range goodWinds() {
			for _, at := range numbers(0, 1, 1800, api.MaxTime-1, api.MaxTime) {
				face := len(w.Faces) - 1
				_, e := dial.Off(w, face, at, wind)
				_, f := dial.Reach(w, face, at, wind, false)
				l, g := dial.Shows(w, face, at, wind)
				if e != api.OK || f != api.OK || g != api.OK || len(l) == 0 {
					t.Errorf("%v, %d, %v: the errors %v, %v, %v; shows %v", w, at, wind, e, f, g, l)
				}
			}
		}
	}
}

// The errors of readings

func TestErrorsOfReadings(t *testing.T) {
	two := faced(plain(), linked())
	long := slices.Repeat(readAll(600), 21)
	badNear := append(badSpans(0, api.MaxTime), span(0, 7201), span(api.MaxTime-7201, api.MaxTime), span(0, api.MaxTime), span(500, 100000))
	for _, l := range [][]api.DialReading{long, slices.Repeat(readAll(600), 1000), append(long, read(9, -1)), slices.Repeat(readings(read(-1, -1)), 21)} {
		expectReadingErrors(t, two, l, span(500, 700), breeze(), api.ErrLong)
		expectReadingErrors(t, two, l, span(700, 500), span(2, 1), api.ErrLong)
	}
	for _, n := range append(wild(), -1, 2, 8) {
		for _, l := range [][]api.DialReading{readings(read(n, 600)), readings(read(n, -1)), readings(read(1, 600), read(n, 43200)), readings(read(n, 600), read(1, 43200))} {
			expectReadingErrors(t, two, l, span(500, 700), breeze(), api.ErrNone)
			expectReadingErrors(t, two, l, span(700, 500), span(2, 1), api.ErrNone)
		}
	}
	for _, n := range append(wild(), -1, 43200) {
		for _, l := range [][]api.DialReading{readings(read(1, n)), readings(read(0, 600), read(0, n)), readings(read(0, n), read(2, 600)), readings(read(0, n), read(2, n))} {
			expectReadingErrors(t, two, l, span(500, 700), breeze(), api.ErrArg)
			expectReadingErrors(t, two, l, span(700, 500), span(2, 1), api.ErrArg)
		}
	}
	for _, near := range badNear {
		for _, l := range [][]api.DialReading{nil, readAll(600), readAll(600, 700)} {
			expectReadingErrors(t, two, l, near, breeze(), api.ErrRange)
			expectReadingErrors(t, two, l, near, span(2, 1), api.ErrRange)
		}
	}
	for _, wind := range badSpans(-10000, 10000) {
		for _, l := range [][]api.DialReading{nil, readAll(600), readAll(600, 700)} {
			expectReadingErrors(t, two, l, span(500, 700), wind, api.ErrArg)
		}
	}
}

func TestNoErrorsOfReadings(t *testing.T) {
	for _, w := range goodWorks() {
		for _, wind := range goodWinds() {
			for _, near := range spans(single(0), single(api.MaxTime), span(0, 1), span(500, 700)) {
				expectTimes(t, w, nil, near, wind, near)
				expectPairs(t, w, nil, near, wind)
			}
		}
	}
	for _, near := range spans(span(0, 7200), span(api.MaxTime-7200, api.MaxTime), span(1, 7200), span(100, 7300)) {
		expectTimes(t, church(), nil, near, breeze(), near)
		expectPairs(t, church(), nil, near, breeze())
	}
}
