package wire_test

import (
	"testing"

	"turret/api"
)

// P8.2, of events

func TestEvents(t *testing.T) {
	near := span(-20, 20)
	ball := event(span(0, 1), 3600, 86400)
	expectSpans(t, ball, 3600, 0, near, span(0, 1))
	expectSpans(t, ball, 3590, 0, near, span(10, 11))
	expectSpans(t, ball, 3600+86400, 0, near, span(0, 1))
	expectSpans(t, ball, 3615+86400, 0, near, span(-15, -14))
	// Long after it: at one o'clock of the last day.
	expectSpans(t, ball, api.MaxTime-86400+3600, 0, near, span(0, 1))
	expectSpans(t, ball, api.MaxTime-86400+3600+7, 0, near, span(-7, -6))
	expectSpans(t, ball, api.MaxTime, 0, near)
	// It happens on no other hours.
	expectSpans(t, ball, 3600+43200, 0, near)
	expectSpans(t, ball, 0, 0, near)
	// Late and early.
	expectSpans(t, event(single(5), 3600, 86400), 3600, 0, near, single(5))
	expectSpans(t, event(single(-5), 3600, 86400), 3600, 0, near, single(-5))
	expectSpans(t, event(span(-5, 3), 3600, 86400), 3600, 0, near, span(-5, 3))
	expectSpans(t, event(span(-5, 3), 3600, 86400), 90000, 0, near, span(-5, 3))
}

// Before the first one there is none, but it can come early.
func TestEventsBeforeTheFirst(t *testing.T) {
	near := span(-50, 50)
	expectSpans(t, event(single(0), 1000, 10), 1000, 0, near, steps(0, 50, 10)...)
	expectSpans(t, event(single(0), 1000, 10), 990, 0, near, steps(10, 50, 10)...)
	expectSpans(t, event(single(0), 1000, 10), 950, 0, near, single(50))
	expectSpans(t, event(single(0), 1000, 10), 949, 0, near)
	expectSpans(t, event(span(-1, 1), 1000, 10), 1000, 0, span(-15, 15), span(-1, 1), span(9, 11))
	expectSpans(t, event(span(-1, 1), 1000, 10), 999, 0, span(-15, 15), span(0, 2), span(10, 12))
	expectSpans(t, event(span(3, 4), 1000, 10), 1000, 0, span(-15, 15), span(3, 4), span(13, 14))
	expectSpans(t, event(span(-4, -3), 1000, 10), 1000, 0, span(-15, 15), span(-4, -3), span(6, 7))
	expectSpans(t, event(span(-3600, -3590), 1000, 10), 0, 0, span(-5, 5), span(0, 5))
	expectSpans(t, event(span(-3600, -3600), 4000, 1000), 400, 0, span(-5, 5), single(0))
	expectSpans(t, event(span(-3600, -3600), 4000, 1000), 399, 0, span(-5, 5), single(1))
	expectSpans(t, event(span(3600, 3600), 4000, 1000), 7600, 0, span(-5, 5), single(0))
	expectSpans(t, event(span(3600, 3600), 4000, 1000), 6600, 0, span(-5, 5))
	// The first one is at the last time, or can only be early.
	expectSpans(t, event(span(-5, 5), api.MaxTime, 1), api.MaxTime, 0, span(-20, 20), span(-5, 0))
	expectSpans(t, event(span(1, 5), api.MaxTime, 1), api.MaxTime, 0, span(-20, 20))
	expectSpans(t, event(span(-5, -4), api.MaxTime, 1), api.MaxTime, 0, span(-20, 20), span(-5, 0))
	expectSpans(t, event(span(-5, -4), api.MaxTime, api.MaxTime), api.MaxTime, 0, span(-20, 20), span(-5, -4))
}

// steps returns the single integers from low to high in steps.
func steps(low, high, step int) []api.Span {
	var list []api.Span
	for n := low; n <= high; n += step {
		list = append(list, single(n))
	}
	return list
}

func TestEventsThatHappenOften(t *testing.T) {
	near := span(-20, 20)
	// Each second, from its first one on.
	expectSpans(t, event(single(0), 100, 1), 100, 0, near, span(0, 20))
	expectSpans(t, event(single(5), 100, 1), 100, 0, near, span(5, 20))
	expectSpans(t, event(single(-5), 100, 1), 100, 0, near, span(-5, 20))
	expectSpans(t, event(span(-5, 5), 100, 1), 100, 0, near, span(-5, 20))
	expectSpans(t, event(single(0), 0, 1), api.MaxTime-3, 0, near, span(-20, 3))
	// Errors that are just too small to fill the time between two, just as great, and greater: spans that touch are one.
	for _, at := range numbers(100, 400000) {
		expectSpans(t, event(span(0, 7), 0, 10), at, 0, near, span(-20, -13), span(-10, -3), span(0, 7), span(10, 17), single(20))
		expectSpans(t, event(span(0, 8), 0, 10), at, 0, near, span(-20, -12), span(-10, -2), span(0, 8), span(10, 18), single(20))
		expectSpans(t, event(span(0, 9), 0, 10), at, 0, near, near)
		expectSpans(t, event(span(0, 10), 0, 10), at, 0, near, near)
		expectSpans(t, event(span(-3600, 3600), 0, 10), at, 0, near, near)
		expectSpans(t, event(span(-4, 4), 0, 10), at, 0, near, span(-20, -16), span(-14, -6), span(-4, 4), span(6, 14), span(16, 20))
		expectSpans(t, event(span(-4, 5), 0, 10), at, 0, near, near)
	}
	expectSpans(t, event(span(-3600, 3600), 5000, 7201), 5000, 0, span(-7200, 7200), span(-3600, 7200))
	expectSpans(t, event(span(-3600, 3600), 5000, 7202), 5000, 0, span(-7200, 7200), span(-3600, 3600), span(3602, 7200))
	expectSpans(t, event(span(-3600, 3600), 5000, 7200), 5000, 0, span(-7200, 7200), span(-3600, 7200))
	expectSpans(t, event(span(-3600, 3600), 5000, 7202), 5000+2*7202, 0, span(-7200, 7200), span(-7200, -3602), span(-3600, 3600), span(3602, 7200))
	expectSpans(t, event(span(0, 0), 0, 2), 100, 0, span(-4, 4), single(-4), single(-2), single(0), single(2), single(4))
}

func TestEventsThatHappenSeldom(t *testing.T) {
	near := span(-20, 20)
	century := event(span(-3, 3), 0, api.MaxTime)
	expectSpans(t, century, 0, 0, near, span(0, 3))
	expectSpans(t, century, 5, 0, near, span(-5, -2))
	expectSpans(t, century, api.MaxTime, 0, near, span(-3, 0))
	expectSpans(t, century, api.MaxTime-5, 0, near, span(2, 5))
	expectSpans(t, century, api.MaxTime/2, 0, near)
	// The second one would be after the last time, but can be early.
	later := event(span(-3, 3), 2, api.MaxTime)
	expectSpans(t, later, api.MaxTime, 0, near, span(-1, 0))
	expectSpans(t, event(span(-3, 3), 3, api.MaxTime), api.MaxTime, 0, near, single(0))
	expectSpans(t, event(span(-3, 3), 4, api.MaxTime), api.MaxTime, 0, near)
	expectSpans(t, event(span(-3, 3), 4, api.MaxTime-1), api.MaxTime, 0, near, single(0))
	expectSpans(t, event(single(0), 86400, api.MaxTime-86400), api.MaxTime, 0, near, single(0))
}
