package zone_test

import (
	"testing"

	"turret/api"
)

// P10.4

func TestOddOfExamples(t *testing.T) {
	expectOdd(t, railway(), nil, spans(span(595, 599)))
	expectOdd(t, back(), spans(span(595, 599)), nil)
}

func TestOddWithoutChanges(t *testing.T) {
	for _, offset := range numbers(-43200, -43199, -61, -60, -1, 0, 1, 59, 60, 61, 43199, 43200) {
		expectOdd(t, town(offset), nil, nil)
		expectOdd(t, town(offset, change(1, offset)), nil, nil)
		expectOdd(t, town(offset, change(600, offset), change(601, offset), change(api.MaxTime, offset)), nil, nil)
	}
}

// A minute is put back or forward at the beginning of a minute.
func TestOddByAboutOneMinute(t *testing.T) {
	expectOdd(t, town(0, change(600, -59)), nil, nil)
	expectOdd(t, town(0, change(600, -60)), nil, nil)
	expectOdd(t, town(0, change(600, -61)), spans(span(8, 9)), nil)
	expectOdd(t, town(0, change(600, -120)), spans(span(8, 9)), nil)
	expectOdd(t, town(0, change(600, 59)), nil, nil)
	expectOdd(t, town(0, change(600, 60)), nil, spans(single(10)))
	expectOdd(t, town(0, change(600, 61)), nil, spans(single(10)))
	expectOdd(t, town(0, change(600, 119)), nil, spans(single(10)))
	expectOdd(t, town(0, change(600, 120)), nil, spans(span(10, 11)))
}

func TestOddWithinMinutes(t *testing.T) {
	expectOdd(t, town(0, change(610, -10)), nil, nil)
	expectOdd(t, town(0, change(610, -11)), spans(span(9, 10)), nil)
	expectOdd(t, town(0, change(610, -60)), spans(span(9, 10)), nil)
	expectOdd(t, town(0, change(659, -60)), spans(span(9, 10)), nil)
	expectOdd(t, town(0, change(659, -119)), spans(span(9, 10)), nil)
	expectOdd(t, town(0, change(659, -120)), spans(span(8, 10)), nil)
	expectOdd(t, town(0, change(610, 60)), nil, nil)
	expectOdd(t, town(0, change(610, 109)), nil, nil)
	expectOdd(t, town(0, change(610, 110)), nil, spans(single(11)))
	expectOdd(t, town(0, change(659, 61)), nil, spans(single(11)))
	expectOdd(t, town(0, change(659, 60)), nil, nil)
}

// Minutes that come twice and minutes that never come, beside one another.
func TestOddBesideOneAnother(t *testing.T) {
	expectOdd(t, town(0, change(600, 120), change(720, 0)), spans(span(12, 13)), spans(span(10, 11)))
	expectOdd(t, town(0, change(600, -120), change(720, 0)), spans(span(8, 9)), spans(span(10, 11)))
	expectOdd(t, town(0, change(600, -120), change(720, -240)), spans(span(8, 9)), nil)
	expectOdd(t, town(0, change(600, 120), change(720, 240)), nil, spans(span(10, 11), span(14, 15)))
	expectOdd(t, town(0, change(600, -300), change(6000, -600)), spans(span(5, 9), span(90, 94)), nil)
	expectOdd(t, town(0, change(600, -300), change(900, -600), change(1200, -900)), spans(span(5, 9)), nil)
}

// What was left out comes after all, once or twice, when the clocks are put back.
func TestOddOfMinutesThatComeLater(t *testing.T) {
	expectOdd(t, town(0, change(600, 1200), change(1200, 0)), spans(span(30, 39)), spans(span(10, 19)))
	expectOdd(t, town(0, change(600, 1200), change(1200, -300)), spans(span(30, 39)), spans(span(10, 14)))
	expectOdd(t, town(0, change(600, 1200), change(1200, -600)), spans(span(30, 39)), nil)
	expectOdd(t, town(0, change(600, 1200), change(1200, -900)), spans(span(5, 9), span(30, 39)), nil)
}

func TestOddOfCloseChanges(t *testing.T) {
	expectOdd(t, town(0, change(610, -10), change(630, 0)), nil, nil)
	expectOdd(t, town(0, change(610, -3000), change(612, 3000), change(615, 0)), spans(single(10), single(60)), spans(span(-39, -1)))
	expectOdd(t, town(0, change(100, 60), change(101, 120), change(102, 180), change(103, 0)), spans(span(1, 4)), nil)
}

func TestOddAtTheEnds(t *testing.T) {
	expectOdd(t, town(0, change(1, -43200)), spans(single(0)), nil)
	expectOdd(t, town(0, change(1, 43200)), nil, spans(span(1, 719)))
	expectOdd(t, town(-43200, change(1, 43200)), nil, spans(span(-719, 719)))
	expectOdd(t, town(43200, change(1, -43200)), spans(single(720)), nil)
	last := api.MaxTime / 60
	expectOdd(t, town(0, change(api.MaxTime, -43200)), spans(single(last-720)), nil)
	expectOdd(t, town(0, change(api.MaxTime, 43200)), nil, spans(span(last, last+719)))
	expectOdd(t, town(43200, change(api.MaxTime, -43200)), spans(single(last-720)), nil)
	expectOdd(t, town(43200, change(api.MaxTime-1, -43200), change(api.MaxTime, 43200)), spans(single(last-721)), nil)
}

// scan returns the spans of instants in which minutes come, from an instant to another.
func scan(z api.ZoneTown, low, high int) map[int][]api.Span {
	seen := map[int][]api.Span{}
	for t := low; t <= high; t++ {
		m := minuteAt(z, t)
		seen[m] = add(seen[m], t)
	}
	return seen
}

// odd returns what Odd does of a town whose changes are 90000 seconds and more away from both instants, unless these are the first and the last one.
func odd(z api.ZoneTown, low, high int) (twice, never []api.Span) {
	seen := scan(z, low, high)
	first, last := (low+50000)/60, (high-50000)/60
	for m := range seen {
		if low == 0 {
			first = min(first, m)
		}
		if high == api.MaxTime {
			last = max(last, m)
		}
	}
	for m := first; m <= last; m++ {
		switch len(seen[m]) {
		case 0:
			never = add(never, m)
		case 1:
		default:
			twice = add(twice, m)
		}
	}
	return twice, never
}

func TestOddOfTowns(t *testing.T) {
	x := seeded(3)
	for i := range 240 {
		offset := numbers(120, 600, 43200)[i%3]
		z, low, high := randomTown(x, 12, 1, 3000, offset), 0, 100000
		if i%2 == 1 {
			z, low, high = randomTown(x, 12, api.MaxTime-3000, api.MaxTime, offset), api.MaxTime-100000, api.MaxTime
		}
		twice, never := odd(z, low, high)
		expectOdd(t, z, twice, never)
	}
}
