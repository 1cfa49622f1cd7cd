package wire_test

import (
	"testing"

	"turret/api"
)

// P8.2, of the sun

func TestSun(t *testing.T) {
	near := span(-50, 50)
	s := sun(span(-2, 3), 30, -20, 0)
	expectSpans(t, s, 0, 0, near, span(28, 33))
	expectSpans(t, s, 86400, 0, near, span(-22, -17))
	expectSpans(t, s, 2*86400, 0, near, span(-2, 3))
	expectSpans(t, s, 2*86400+10, 0, near, span(-12, -7))
	expectSpans(t, s, 2*86400-10, 0, near, span(8, 13))
	// After the end of the table it begins again.
	expectSpans(t, s, 3*86400, 0, near, span(28, 33))
	expectSpans(t, s, 4*86400, 0, near, span(-22, -17))
	expectSpans(t, s, 5*86400, 0, near, span(-2, 3))
	expectSpans(t, s, 36524*86400, 0, near, span(-2, 3))
	expectSpans(t, s, 36523*86400, 0, near, span(-22, -17))
	expectSpans(t, s, 36522*86400, 0, near, span(28, 33))
	// It crosses the mark at noon alone.
	expectSpans(t, s, 43200, 0, span(-7200, 7200))
	expectSpans(t, s, 21600, 0, span(-7200, 7200))
	expectSpans(t, s, 5*86400-21600, 0, span(-7200, 7200))
	// Late and early.
	expectSpans(t, sun(single(7), 10), 86400, 0, near, single(17))
	expectSpans(t, sun(single(-7), 10), 86400, 0, near, single(3))
}

func TestTablesOfTheSun(t *testing.T) {
	near := span(-50, 50)
	// A table of one element is that of all days.
	for _, day := range numbers(0, 1, 2, 365, 366, 36524) {
		expectSpans(t, sun(single(0), 30), day*86400, 0, near, single(30))
		expectSpans(t, sun(single(0), 30), day*86400+40, 0, near, single(-10))
	}
	// A table of a year, of two days, and one of which the days differ by much.
	var year []int
	for n := range 366 {
		year = append(year, n%41-20)
	}
	for _, day := range numbers(1, 2, 40, 364, 365, 366, 367, 731, 732, 733, 10000, 36524) {
		expectSpans(t, sun(single(0), year...), day*86400, 0, near, single(day%366%41-20))
		expectSpans(t, sun(single(0), year[:365]...), day*86400, 0, near, single(day%365%41-20))
		expectSpans(t, sun(span(-1, 1), 3600, -3600), day*86400, 0, span(-7200, 7200), span(3599-7200*(day%2), 3601-7200*(day%2)))
	}
}

func TestSunOnTheFirstAndLastDay(t *testing.T) {
	near := span(-50, 50)
	// The noon of the first day can be before the first time: it is noted if the source is late.
	expectSpans(t, sun(span(-2, 2), -1), 0, 0, near, span(0, 1))
	expectSpans(t, sun(span(-2, 2), -2), 0, 0, near, single(0))
	expectSpans(t, sun(span(-2, 2), -3), 0, 0, near)
	expectSpans(t, sun(span(-2, 2), 1), 0, 0, near, span(0, 3))
	expectSpans(t, sun(span(3599, 3600), -3600), 0, 0, near, single(0))
	expectSpans(t, sun(span(-3600, -3599), 3600), 0, 0, near, span(0, 1))
	expectSpans(t, sun(single(3600), 3600), 0, 0, span(-7200, 7200), single(7200))
	expectSpans(t, sun(single(-3600), -3600), 86400, 0, span(-7200, 7200), single(-7200))
	expectSpans(t, sun(span(-3600, 3600), -3600), 86400, 0, span(-7200, 7200), span(-7200, 0))
	expectSpans(t, sun(span(-3600, 3600), 3600), 86400, 0, span(-7200, 7200), span(0, 7200))
	// There is no day before the first one.
	expectSpans(t, sun(single(-3600), 3600, 0), 0, 0, near, single(0))
	expectSpans(t, sun(single(-3600), 3599), 0, 0, near)
	// The last noon is that of the day 36525, if it is early enough.
	for _, c := range []struct{ table, want int }{{0, 0}, {-1, -1}, {-20, -20}, {-50, -50}} {
		expectSpans(t, sun(single(0), c.table), api.MaxTime, 0, near, single(c.want))
	}
	expectSpans(t, sun(single(0), 1), api.MaxTime, 0, near)
	expectSpans(t, sun(span(-2, 2), 1), api.MaxTime, 0, near, span(-1, 0))
	expectSpans(t, sun(span(-2, 2), 3), api.MaxTime, 0, near)
	expectSpans(t, sun(span(-2, 2), 0, 0, -1), api.MaxTime, 0, near, span(-2, 0))
	expectSpans(t, sun(span(-2, 2), -10, 0, 0), api.MaxTime, 0, near, span(-12, -8))
	expectSpans(t, sun(single(-3600), 3600), api.MaxTime, 0, near, single(0))
	expectSpans(t, sun(single(-3600), -3600), api.MaxTime-7190, 0, near, single(-10))
	expectSpans(t, sun(single(3600), 3600), api.MaxTime-86400+7190, 0, near, single(10))
}
