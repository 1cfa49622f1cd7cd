package wire_test

import (
	"testing"

	"turret/api"
)

// P8.6, P8.7

// expectVerdict fails unless Convict says what the sources say each of which explains all.
func expectVerdict(t *testing.T, q question, a answer) {
	t.Helper()
	switch {
	case len(a.fits) > 0:
		expectConvictError(t, q, api.ErrNone)
	case len(a.guilty) == 0:
		expectConvictError(t, q, api.ErrState)
	case len(a.guilty) > 1:
		expectConvictError(t, q, api.ErrTwice)
	default:
		expectConvict(t, q, a.guilty[0])
	}
}

func TestWrong(t *testing.T) {
	expectWrong(t, town(40), numbers(2))
	expectWrong(t, town(40).without(0), numbers(1), numbers(2))
	expectWrong(t, town(40).without(1), numbers(0), numbers(2))
	near := span(-20, 20)
	expectWrong(t, wanted(near, 7, 7, 3, 7), numbers(2))
	expectWrong(t, wanted(near, 7, 3, 3, 3), numbers(0))
	expectWrong(t, wanted(near, 7, 3, 7, 3, 7), numbers(1, 3))
	expectWrong(t, wanted(near, 7, 3, 5, 3, 3, 9), numbers(0, 2, 5))
}

// The empty set alone, if all notes are right.
func TestNoneIsWrong(t *testing.T) {
	for _, q := range []question{town(2), town(2).without(0), town(2).without(0, 1, 2), town(40).without(2), wanted(span(-20, 20), 5, 5, 5), ask(signals(10), single(7200))} {
		l, e := q.wrong()
		if len(l) != 1 || len(l[0]) != 0 || e != api.OK {
			t.Errorf("Wrong(%v) = %v, %v", q, l, e)
		}
		expectConvictError(t, q, api.ErrNone)
	}
}

// Of several sizes of sets that explain all, the smallest ones, in ascending order.
func TestSetsThatExplainAll(t *testing.T) {
	near := span(-20, 20)
	expectWrong(t, wanted(near, 1, 2), numbers(0), numbers(1))
	expectWrong(t, wanted(near, 1, 2, 3), numbers(0, 1), numbers(0, 2), numbers(1, 2))
	expectWrong(t, wanted(near, 1, 2, 3, 4), numbers(0, 1, 2), numbers(0, 1, 3), numbers(0, 2, 3), numbers(1, 2, 3))
	// Two by two, and one alone: three, three or four are wrong.
	expectWrong(t, wanted(near, 1, 1, 2, 2, 3), numbers(0, 1, 4), numbers(2, 3, 4))
	expectWrong(t, wanted(near, 1, 2, 3, 2, 1), numbers(0, 2, 4), numbers(1, 2, 3))
	expectWrong(t, wanted(near, 3, 1, 2, 2, 1), numbers(0, 1, 4), numbers(0, 2, 3))
	// With other corrections other sources are wrong, in no order.
	expectWrong(t, wanted(near, 9, 8, 7, 6, 5, 4, 3, 2, 1, 9), numbers(1, 2, 3, 4, 5, 6, 7, 8))
	expectWrong(t, wanted(near, 9, 1, 5, 9, 1, 5), numbers(0, 1, 3, 4), numbers(0, 2, 3, 5), numbers(1, 2, 4, 5))
	// Five against four, and one that agrees with both.
	q := wanted(near, 1, 2, 1, 2, 1, 2, 1, 2, 1).and(note(9, 100, 100))
	q.w = append(q.w, signal(span(0, 5)))
	expectWrong(t, q, numbers(1, 3, 5, 7))
	expectWrong(t, q.without(0), numbers(1, 3, 5, 7), numbers(2, 4, 6, 8))
}

// Without a correction with which some source is right all are wrong together.
func TestAllAreWrong(t *testing.T) {
	expectWrong(t, wanted(span(-20, 20), 30), numbers(0))
	expectWrong(t, wanted(span(-20, 20), 30, 31), numbers(0, 1))
	expectWrong(t, wanted(span(-20, 20), 30, 30, 30, 30, 30, 30, 30, 30, 30, 30), numbers(0, 1, 2, 3, 4, 5, 6, 7, 8, 9))
	expectWrong(t, wanted(span(-20, 20), 30, 31, 5), numbers(0, 1))
	// Sources without notes are never wrong.
	q := ask(signals(5), span(-20, 20), note(1, 100, 105), note(3, 100, 106))
	expectWrong(t, q, numbers(1), numbers(3))
	expectWrong(t, q.and(note(3, 200, 207)), numbers(3))
	expectWrong(t, q.and(note(3, 200, 207), note(1, 200, 207)), numbers(1, 3))
}

func TestConvict(t *testing.T) {
	expectConvict(t, town(40), 2)
	expectConvictError(t, town(40).without(0), api.ErrTwice)
	expectConvictError(t, town(40).without(1), api.ErrTwice)
	expectConvictError(t, town(40).without(2), api.ErrNone)
	expectConvictError(t, town(2), api.ErrNone)
	near := span(-20, 20)
	expectConvict(t, wanted(near, 7, 7, 3), 2)
	expectConvict(t, wanted(near, 7, 3, 7), 1)
	expectConvict(t, wanted(near, 3, 7, 7), 0)
	expectConvict(t, wanted(near, 7, 7, 7, 7, 7, 7, 7, 7, 7, 3), 9)
	expectConvictError(t, wanted(near, 7, 3), api.ErrTwice)
	expectConvictError(t, wanted(near, 7, 7, 3, 3), api.ErrState)
	expectConvictError(t, wanted(near, 1, 2, 3), api.ErrState)
	expectConvictError(t, wanted(near, 7, 7, 7, 2, 3), api.ErrState)
	// Nobody else is there.
	expectConvict(t, wanted(near, 30), 0)
	expectConvictError(t, wanted(near, 7), api.ErrNone)
	expectConvictError(t, wanted(near, 30, 31), api.ErrState)
	expectConvict(t, wanted(near, 7, 30), 1)
	expectConvict(t, wanted(near, 30, 7), 0)
	// One that contradicts itself, beside one without notes.
	q := ask(signals(3), near, note(1, 100, 105), note(1, 200, 206))
	expectConvict(t, q, 1)
	expectConvict(t, q.and(note(2, 100, 105)), 1)
	expectConvict(t, q.and(note(2, 100, 105), note(0, 100, 105)), 1)
	expectConvictError(t, q.and(note(2, 100, 105), note(0, 100, 106)), api.ErrState)
}

// The pairs do not say who is wrong: two of three that agree two by two can be right with several corrections.
func TestConvictedBySeveralCorrections(t *testing.T) {
	w := sources(event(single(0), 0, 10), signal(span(0, 9)), signal(single(0)))
	q := ask(w, span(-20, 20), note(0, 1000, 0), note(1, 1000, 1003), note(2, 1000, 1003))
	expectMost(t, q, 2, span(3, 3), single(10))
	expectConvictError(t, q, api.ErrTwice)
	expectWrong(t, q, numbers(0), numbers(2))
}

// The dial of a town whose clocks were put back by 300 seconds, beside two signals.
func TestTheDialOfATown(t *testing.T) {
	w := sources(plain(single(0)), signal(span(-2, 2)), signal(span(-1, 3)))
	q := ask(w, span(-20, 20), note(0, 36000, 35700), note(1, 36000, 36001), note(2, 36010, 36010))
	expectSpans(t, w[0], 36000, 35700, span(-7200, 7200), single(-300))
	expectConvict(t, q, 0)
	expectConvict(t, q.around(span(-7200, 7200)), 0)
	expectPairs(t, q, [2]int{0, 1}, [2]int{0, 2})
	expectStretch(t, q, 0, 299)
}
