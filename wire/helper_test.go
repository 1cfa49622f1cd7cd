package wire_test

import (
	"math"
	"slices"
	"testing"

	"turret/api"
	"turret/wire"
)

func span(low, high int) api.Span { return api.Span{Low: low, High: high} }

func single(n int) api.Span { return span(n, n) }

func spans(s ...api.Span) []api.Span { return s }

func numbers(n ...int) []int { return n }

func clock(wrong api.Span, at int, drift api.Span) api.WireSource {
	return api.WireSource{Kind: api.WireClock, Error: wrong, At: at, Drift: drift}
}

func event(wrong api.Span, at, every int) api.WireSource {
	return api.WireSource{Kind: api.WireEvent, Error: wrong, At: at, Every: every}
}

func sun(wrong api.Span, table ...int) api.WireSource {
	return api.WireSource{Kind: api.WireSun, Error: wrong, Table: table}
}

func signal(wrong api.Span) api.WireSource {
	return api.WireSource{Kind: api.WireSignal, Error: wrong}
}

func sources(w ...api.WireSource) []api.WireSource { return w }

// signals returns so many signals without an error.
func signals(n int) []api.WireSource { return slices.Repeat(sources(signal(single(0))), n) }

func note(source, tick, said int) api.WireNote {
	return api.WireNote{Source: source, Tick: tick, Said: said}
}

func notes(l ...api.WireNote) []api.WireNote { return l }

// question is what is asked about sources.
type question struct {
	w    []api.WireSource
	l    []api.WireNote
	near api.Span
}

func ask(w []api.WireSource, near api.Span, l ...api.WireNote) question { return question{w, l, near} }

// wanted returns a question about signals without an error, each of which wants its correction.
func wanted(near api.Span, corrections ...int) question {
	q := ask(signals(len(corrections)), near)
	for i, c := range corrections {
		q.l = append(q.l, note(i, 50000, 50000+c))
	}
	return q
}

// town is the ball, the wire and the clock of the chapter's examples, with what the clock said.
func town(said int) question {
	w := sources(event(span(0, 1), 3600, 86400), signal(span(2, 5)), clock(span(-1, 1), 0, span(0, 2000)))
	return ask(w, span(0, 200), note(0, 3500, 0), note(1, 7000, 7098), note(2, 86300, said))
}

// without returns the question without the notes of some sources.
func (q question) without(sources ...int) question {
	of := func(n api.WireNote) bool { return slices.Contains(sources, n.Source) }
	q.l = slices.DeleteFunc(slices.Clone(q.l), of)
	return q
}

// around returns the question with other corrections.
func (q question) around(near api.Span) question {
	q.near = near
	return q
}

// and returns the question with more notes.
func (q question) and(l ...api.WireNote) question {
	q.l = slices.Concat(q.l, l)
	return q
}

// wider returns the question with an Error of a source that is wider to both sides.
func (q question) wider(source, by int) question {
	q.w = slices.Clone(q.w)
	wrong := &q.w[source].Error
	wrong.Low, wrong.High = wrong.Low-by, wrong.High+by
	return q
}

// later returns the question with a counter that was set earlier: its ticks are greater.
func (q question) later(by int) question {
	q.l = slices.Clone(q.l)
	for i := range q.l {
		q.l[i].Tick += by
	}
	q.near.Low, q.near.High = q.near.Low-by, q.near.High-by
	return q
}

func (q question) fits() ([]api.Span, api.Errno) { return wire.Fits(q.w, q.l, q.near) }

func (q question) pairs() ([][2]int, api.Errno) { return wire.Pairs(q.w, q.l, q.near) }

func (q question) most() (int, []api.Span, api.Errno) { return wire.Most(q.w, q.l, q.near) }

func (q question) wrong() ([][]int, api.Errno) { return wire.Wrong(q.w, q.l, q.near) }

func (q question) convict() (int, api.Errno) { return wire.Convict(q.w, q.l, q.near) }

func (q question) stretch(source int) (int, api.Errno) {
	return wire.Stretch(q.w, q.l, q.near, source)
}

// shifted returns spans that are so much greater.
func shifted(l []api.Span, by int) []api.Span {
	var list []api.Span
	for _, s := range l {
		list = append(list, span(s.Low+by, s.High+by))
	}
	return list
}

// isPart reports whether all integers of spans are in others. Both are in ascending order, and never touch.
func isPart(l, others []api.Span) bool {
	for _, s := range l {
		has := func(o api.Span) bool { return o.Low <= s.Low && s.High <= o.High }
		if !slices.ContainsFunc(others, has) {
			return false
		}
	}
	return true
}

func has(l []api.Span, n int) bool { return isPart(spans(single(n)), l) }

func sameSets(a, b [][]int) bool { return slices.EqualFunc(a, b, slices.Equal) }

// wild are integers that nothing allows.
func wild() []int { return numbers(math.MinInt, math.MaxInt, -1<<62, 1<<62) }

// badSpans are spans that are not valid from -most to most.
func badSpans(most int) []api.Span {
	list := spans(span(1, 0), span(-most, -most-1), span(most, most-1), span(most, -most), single(-most-1), single(most+1), span(-most-1, most), span(-most, most+1), span(0, most+1), span(-most-1, 0), span(math.MaxInt, math.MinInt))
	for _, n := range wild() {
		list = append(list, single(n), span(min(n, 0), max(n, 0)), span(max(n, 0), min(n, 0)))
	}
	return list
}

func expectSpans(t *testing.T, s api.WireSource, tick, said int, near api.Span, want ...api.Span) {
	t.Helper()
	// Another source, without notes, does not matter.
	for _, w := range [][]api.WireSource{sources(s), sources(signal(single(7)), s)} {
		n := note(len(w)-1, tick, said)
		if l, e := wire.Spans(w, n, near); !slices.Equal(l, want) || e != api.OK {
			t.Errorf("Spans(%v, %v, %v) = %v, %v; want %v", w, n, near, l, e, want)
		}
	}
}

func expectFits(t *testing.T, q question, want ...api.Span) {
	t.Helper()
	e := api.OK
	if len(want) == 0 {
		e = api.ErrNone
	}
	if l, f := q.fits(); !slices.Equal(l, want) || f != e {
		t.Errorf("Fits(%v) = %v, %v; want %v, %v", q, l, f, want, e)
	}
}

func expectPairs(t *testing.T, q question, want ...[2]int) {
	t.Helper()
	if l, e := q.pairs(); !slices.Equal(l, want) || e != api.OK {
		t.Errorf("Pairs(%v) = %v, %v; want %v", q, l, e, want)
	}
}

func expectMost(t *testing.T, q question, most int, want ...api.Span) {
	t.Helper()
	if n, l, e := q.most(); n != most || !slices.Equal(l, want) || e != api.OK {
		t.Errorf("Most(%v) = %d, %v, %v; want %d, %v", q, n, l, e, most, want)
	}
}

func expectWrong(t *testing.T, q question, want ...[]int) {
	t.Helper()
	if l, e := q.wrong(); !sameSets(l, want) || e != api.OK {
		t.Errorf("Wrong(%v) = %v, %v; want %v", q, l, e, want)
	}
}

func expectConvict(t *testing.T, q question, want int) {
	t.Helper()
	if n, e := q.convict(); n != want || e != api.OK {
		t.Errorf("Convict(%v) = %d, %v; want %d", q, n, e, want)
	}
}

func expectConvictError(t *testing.T, q question, want api.Errno) {
	t.Helper()
	if n, e := q.convict(); n != 0 || e != want {
		t.Errorf("Convict(%v) = %d, %v; want the error %v", q, n, e, want)
	}
}

func expectStretch(t *testing.T, q question, source, want int) {
	t.Helper()
	if n, e := q.stretch(source); n != want || e != api.OK {
		t.Errorf("Stretch(%v, %d) = %d, %v; want %d", q, source, n, e, want)
	}
}

func expectStretchError(t *testing.T, q question, source int, want api.Errno) {
	t.Helper()
	if n, e := q.stretch(source); n != 0 || e != want {
		t.Errorf("Stretch(%v, %d) = %d, %v; want the error %v", q, source, n, e, want)
	}
}

// expectErrors fails unless all functions that take notes return that error alone; Spans does for the first note if it is the only one.
func expectErrors(t *testing.T, q question, want api.Errno) {
	t.Helper()
	if len(q.l) == 1 {
		if l, e := wire.Spans(q.w, q.l[0], q.near); len(l) > 0 || e != want {
			t.Errorf("Spans(%v) = %v, %v; want the error %v", q, l, e, want)
		}
	}
	if l, e := q.fits(); len(l) > 0 || e != want {
		t.Errorf("Fits(%v) = %v, %v; want the error %v", q, l, e, want)
	}
	if l, e := q.pairs(); len(l) > 0 || e != want {
		t.Errorf("Pairs(%v) = %v, %v; want the error %v", q, l, e, want)
	}
	if n, l, e := q.most(); n != 0 || len(l) > 0 || e != want {
		t.Errorf("Most(%v) = %d, %v, %v; want the error %v", q, n, l, e, want)
	}
	if l, e := q.wrong(); len(l) > 0 || e != want {
		t.Errorf("Wrong(%v) = %v, %v; want the error %v", q, l, e, want)
	}
	expectConvictError(t, q, want)
	for _, source := range append(wild(), -1, 0, 5, 10) {
		expectStretchError(t, q, source, want)
	}
}
