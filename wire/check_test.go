package wire_test

import (
	"math"
	"reflect"
	"slices"
	"testing"

	"turret/api"
	"turret/wire"
)

// goodSources are valid, and have least and greatest values.
func goodSources() []api.WireSource {
	list := sources(clock(span(-1, 1), 0, span(0, 2000)), event(span(0, 1), 3600, 86400), sun(span(-2, 2), 5, -5), signal(span(2, 5)))
	for _, s := range spans(single(0), single(-3600), single(3600), span(-3600, 3600), span(-3600, -3599), span(3599, 3600)) {
		list = append(list, clock(s, 0, single(0)), event(s, 0, 1), sun(s, 0), signal(s))
	}
	for _, at := range numbers(0, 1, api.MaxTime-1, api.MaxTime) {
		list = append(list, clock(single(0), at, single(0)), event(single(0), at, 1))
	}
	for _, drift := range spans(single(0), single(-100000), single(100000), span(-100000, 100000), span(-100000, -99999), span(99999, 100000), span(-1, 1)) {
		list = append(list, clock(single(0), 0, drift))
	}
	for _, every := range numbers(1, 2, 86400, api.MaxTime-1, api.MaxTime) {
		list = append(list, event(single(0), 0, every))
	}
	for _, n := range numbers(1, 2, 365, 366) {
		list = append(list, sun(single(0), make([]int, n)...), sun(single(0), slices.Repeat(numbers(3600), n)...), sun(single(0), slices.Repeat(numbers(-3600), n)...))
	}
	return append(list, unusedValues()...)
}

// unusedValues are sources that are valid, with values of what their kinds do not use that would be invalid.
func unusedValues() []api.WireSource {
	var list []api.WireSource
	for _, n := range append(wild(), -1, api.MaxTime+1, 0) {
		for _, drift := range append(badSpans(100000), single(0)) {
			c := clock(single(0), 0, single(0))
			c.Every, c.Table = n, make([]int, 367)
			e := event(single(0), 0, 1)
			e.Drift, e.Table = drift, numbers(n, 3601)
			u := sun(single(0), 0)
			u.At, u.Drift, u.Every = n, drift, n
			s := signal(single(0))
			s.At, s.Drift, s.Every, s.Table = n, drift, n, numbers(n, -3601)
			list = append(list, c, e, u, s)
		}
	}
	return list
}

// badSources are not valid.
func badSources() []api.WireSource {
	var list []api.WireSource
	for _, s := range goodSources()[:4] {
		for _, kind := range append(wild(), -1, 0, 5, 6, 7, 8, 16) {
			s.Kind = api.WireKind(kind)
			list = append(list, s)
		}
	}
	for _, s := range badSpans(3600) {
		list = append(list, clock(s, 0, single(0)), event(s, 0, 1), sun(s, 0), signal(s))
	}
	for _, at := range append(wild(), -1, api.MaxTime+1) {
		list = append(list, clock(single(0), at, single(0)), event(single(0), at, 1))
	}
	for _, drift := range badSpans(100000) {
		list = append(list, clock(single(0), 0, drift))
	}
	for _, every := range append(wild(), 0, -1, api.MaxTime+1) {
		list = append(list, event(single(0), 0, every))
	}
	for _, n := range append(wild(), -3601, 3601) {
		list = append(list, sun(single(0), n), sun(single(0), 0, n), sun(single(0), append(make([]int, 365), n)...), sun(single(0), append(numbers(n), make([]int, 365)...)...))
	}
	return append(list, api.WireSource{}, sun(single(0)), sun(single(0), numbers()...), sun(single(0), make([]int, 367)...), sun(single(0), make([]int, 1000)...))
}

// badLists are no valid sources.
func badLists() [][]api.WireSource {
	good := signal(single(0))
	list := [][]api.WireSource{nil, sources(), signals(11), signals(12), signals(100), make([]api.WireSource, 10), make([]api.WireSource, 11)}
	for _, s := range badSources() {
		list = append(list, sources(s), sources(good, s), sources(s, good, good), append(signals(9), s), append(sources(s), signals(9)...))
	}
	return list
}

// P8.1

func TestCheckAcceptsSources(t *testing.T) {
	accept := func(w ...api.WireSource) {
		t.Helper()
		if e := wire.Check(w); e != api.OK {
			t.Errorf("Check(%v) = %v", w, e)
		}
		q := ask(w, single(0))
		if _, e := q.fits(); e != api.OK {
			t.Errorf("Fits(%v) = %v", q, e)
		}
	}
	for _, s := range goodSources() {
		accept(s)
		accept(signal(single(0)), s, s)
	}
	for n := 1; n <= 10; n++ {
		accept(signals(n)...)
		accept(goodSources()[:n]...)
	}
}

func TestCheckRejectsSources(t *testing.T) {
	for _, w := range badLists() {
		if e := wire.Check(w); e != api.ErrArg {
			t.Errorf("Check(%v) = %v", w, e)
		}
	}
}

// The errors of notes

// The errors of sources come first, whatever else is wrong.
func TestErrorsOfSources(t *testing.T) {
	bad := note(math.MaxInt, -1, -1)
	for _, w := range badLists() {
		expectErrors(t, ask(w, single(0)), api.ErrArg)
		expectErrors(t, ask(w, single(0), note(0, 0, 0)), api.ErrArg)
		expectErrors(t, ask(w, span(1, 0), bad), api.ErrArg)
		expectErrors(t, ask(w, span(1, 0), slices.Repeat(notes(bad), 61)...), api.ErrArg)
	}
}

func TestErrorsOfManyNotes(t *testing.T) {
	good, bad := note(0, 0, 0), note(math.MaxInt, -1, -1)
	for _, n := range numbers(61, 62, 100, 1000) {
		for _, near := range spans(single(0), span(1, 0), span(-7201, 7201)) {
			expectErrors(t, ask(signals(2), near, slices.Repeat(notes(good), n)...), api.ErrLong)
			expectErrors(t, ask(signals(2), near, slices.Repeat(notes(bad), n)...), api.ErrLong)
		}
	}
	for _, n := range numbers(0, 1, 59, 60) {
		q := ask(signals(2), span(-5, 5), slices.Repeat(notes(good), n)...)
		if n == 0 {
			expectFits(t, q, span(-5, 5))
		} else {
			expectFits(t, q, single(0))
		}
	}
}

// fourKinds has a source of each kind.
func fourKinds() []api.WireSource { return goodSources()[:4] }

// badNotes are the notes of these sources that have an error, with it.
func badNotes() map[api.WireNote]api.Errno {
	list := map[api.WireNote]api.Errno{}
	for _, n := range append(wild(), -1, 4, 5, 9, 10) {
		list[note(n, 0, 0)] = api.ErrNone
		list[note(n, -1, 0)] = api.ErrNone
		list[note(n, api.MaxTime+1, -1)] = api.ErrNone
	}
	for source := range 4 {
		for _, n := range append(wild(), -1, api.MaxTime+1) {
			list[note(source, n, 0)] = api.ErrArg
			list[note(source, 0, n)] = api.ErrArg
			list[note(source, n, n)] = api.ErrArg
		}
	}
	for _, said := range numbers(43200, 43201, 86400, api.MaxTime) {
		list[note(0, 0, said)] = api.ErrArg
	}
	for _, said := range numbers(1, 2, 43199, api.MaxTime) {
		list[note(1, 0, said)] = api.ErrArg
		list[note(2, 0, said)] = api.ErrArg
	}
	return list
}

func TestErrorsOfNotes(t *testing.T) {
	good := note(3, 100, 100)
	for n, want := range badNotes() {
		for _, near := range spans(single(0), span(1, 0), span(-7201, 0), span(0, 7201)) {
			expectErrors(t, ask(fourKinds(), near, n), want)
			expectErrors(t, ask(fourKinds(), near, good, good, n), want)
			expectErrors(t, ask(fourKinds(), near, append(slices.Repeat(notes(good), 59), n)...), want)
		}
	}
}

// The first note with an error decides, and of its errors the one named first.
func TestErrorsNoteByNote(t *testing.T) {
	for n, want := range badNotes() {
		for _, other := range notes(note(4, 0, 0), note(0, -1, 0), note(3, 0, -1), note(-1, -1, -1)) {
			expectErrors(t, ask(fourKinds(), single(0), n, other), want)
			expectErrors(t, ask(fourKinds(), single(0), note(3, 0, 0), n, note(3, 0, 0), other), want)
		}
	}
}

func TestNotesWithoutAnError(t *testing.T) {
	for _, tick := range numbers(0, 1, 43200, api.MaxTime-1, api.MaxTime) {
		for _, n := range notes(note(0, tick, 0), note(0, tick, 43199), note(1, tick, 0), note(2, tick, 0), note(3, tick, 0), note(3, tick, 43200), note(3, tick, api.MaxTime)) {
			if _, e := wire.Spans(fourKinds(), n, span(-7200, 7200)); e != api.OK {
				t.Errorf("Spans(%v) = %v", n, e)
			}
		}
	}
}

func TestErrorsOfNear(t *testing.T) {
	for _, near := range badSpans(7200) {
		expectErrors(t, ask(signals(1), near), api.ErrRange)
		expectErrors(t, ask(signals(6), near, note(5, 100, 100)), api.ErrRange)
		expectErrors(t, ask(fourKinds(), near, note(3, 100, 100), note(0, 100, 100)), api.ErrRange)
		// Nothing fits.
		expectErrors(t, wanted(single(0), 0, 500).around(near), api.ErrRange)
	}
	for _, near := range spans(span(-7200, 7200), single(-7200), single(7200), span(-7200, -7199), span(7199, 7200), single(0)) {
		expectFits(t, ask(signals(1), near), near)
	}
}

// P1

func TestAnyArguments(t *testing.T) {
	r := seeded(1)
	value := func() int {
		return pick(r, math.MinInt, math.MaxInt, math.MinInt+1, -1<<31, 1<<31, -1, 0, 1, 2, 3, 4, 3600, 43199, 86400, api.MaxTime, r.IntN(10000)-5000)
	}
	span := func() api.Span { return api.Span{Low: value(), High: value()} }
	for range 1500 {
		var q question
		for range r.IntN(12) {
			s := api.WireSource{Kind: api.WireKind(value()), Error: span(), At: value(), Drift: span(), Every: value()}
			for range r.IntN(4) {
				s.Table = append(s.Table, value())
			}
			if r.IntN(10) > 0 {
				s = goodSources()[r.IntN(40)]
			}
			q.w = append(q.w, s)
		}
		for range r.IntN(4) {
			q.l = append(q.l, note(r.IntN(len(q.w)+1), 1000*r.IntN(100), 0))
			if r.IntN(2) == 0 {
				q.l = append(q.l, note(value(), value(), value()))
			}
		}
		q.near = span()
		if r.IntN(2) == 0 {
			q.near = part(r, 7200, 5)
		}
		callAll(q, value())
	}
}

func callAll(q question, source int) []any {
	a, b := q.fits()
	c, d := q.pairs()
	e, f, g := q.most()
	h, i := q.wrong()
	j, k := q.convict()
	l, m := q.stretch(source)
	all := []any{wire.Check(q.w), a, b, c, d, e, f, g, h, i, j, k, l, m}
	if len(q.l) > 0 {
		n, o := wire.Spans(q.w, q.l[0], q.near)
		all = append(all, n, o)
	}
	return all
}

// R3, R4

func TestNilAndEmpty(t *testing.T) {
	for _, w := range [][]api.WireSource{signals(3), sources(event(single(0), 0, 10))} {
		a, b := question{w, nil, span(-5, 5)}, question{w, notes(), span(-5, 5)}
		if x, y := callAll(a, 0), callAll(b, 0); !reflect.DeepEqual(x, y) {
			t.Errorf("without notes: %v and %v", x, y)
		}
	}
}

func (q question) copied() question {
	q.w, q.l = slices.Clone(q.w), slices.Clone(q.l)
	for i := range q.w {
		q.w[i].Table = slices.Clone(q.w[i].Table)
	}
	return q
}

func TestArgumentsStay(t *testing.T) {
	for x := range trials(2, 300, 2) {
		q := x.copied()
		first := callAll(x.question, 0)
		if !reflect.DeepEqual(q, x.question) {
			t.Fatalf("the question %v became %v", q, x.question)
		}
		// What is done with an argument afterwards changes nothing in a result.
		want := callAll(q, 0)
		for i := range x.w {
			clear(x.w[i].Table)
		}
		clear(x.w)
		clear(x.l)
		if !reflect.DeepEqual(first, want) {
			t.Fatalf("the answers %v became %v", want, first)
		}
	}
}

func TestResultsShareNoMemory(t *testing.T) {
	q := wanted(span(-100, 100), -50, 0, 50)
	_, before, _ := q.most()
	_, after, _ := q.most()
	wrong, _ := q.wrong()
	again, _ := q.wrong()
	before[0] = single(99)
	wrong[0][0], wrong[1] = 99, nil
	wrong[2] = append(wrong[2], 99)
	if !slices.Equal(after, spans(single(-50), single(0), single(50))) || !sameSets(again, [][]int{{0, 1}, {0, 2}, {1, 2}}) {
		t.Errorf("results share memory: %v, %v", after, again)
	}
	again[0] = append(again[0], 99)
	again[0][0] = 77
	if !slices.Equal(again[1], numbers(0, 2)) {
		t.Errorf("the sets of a result share memory: %v", again)
	}
	a, _ := q.without(1, 2).fits()
	a[0] = single(99)
	expectFits(t, q.without(1, 2), single(-50))
	p, _ := q.pairs()
	p[0] = [2]int{9, 9}
	expectPairs(t, q, [2]int{0, 1}, [2]int{0, 2}, [2]int{1, 2})
}
