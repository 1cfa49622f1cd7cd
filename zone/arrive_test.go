package zone_test

import (
	"testing"

	"turret/api"
)

// P10.7

func TestArrive(t *testing.T) {
	expectArrive(t, office(), 10, single(0), office(), single(10))
	expectArrive(t, office(), 10, single(60), office(), single(11))
	expectArrive(t, office(), 10, single(1), office(), span(10, 11))
	expectArrive(t, office(), 10, span(30, 90), office(), span(10, 12))
	expectArrive(t, office(), 10, span(60, 61), office(), span(11, 12))
	expectArrive(t, office(), 10, span(0, 86400), office(), span(10, 1450))
	expectArrive(t, office(), 10, single(86400), office(), single(1450))
	expectArrive(t, town(-300), 10, single(0), office(), single(15))
	expectArrive(t, office(), 10, single(0), town(-300), single(5))
	expectArrive(t, office(), 10, single(0), town(-43200), single(-710))
	expectArrive(t, office(), 10, single(0), town(30), span(10, 11))
}

func TestArriveFromMinutesThatComeTwice(t *testing.T) {
	expectArrive(t, back(), 597, single(0), office(), single(597), single(602))
	expectArrive(t, back(), 597, span(0, 240), office(), span(597, 606))
	expectArrive(t, back(), 597, span(0, 180), office(), span(597, 600), span(602, 605))
	expectArrive(t, back(), 597, span(0, 181), office(), span(597, 606))
	expectArrive(t, back(), 597, span(0, 120), office(), span(597, 599), span(602, 604))
	expectArrive(t, back(), 597, single(0), back(), single(597))
	expectArrive(t, back(), 597, span(0, 60), back(), span(597, 598))
	expectArrive(t, back(), 599, single(60), back(), single(595), single(600))
}

// The train arrives in minutes that come twice, or after minutes that are left out.
func TestArriveWhenClocksAreChanged(t *testing.T) {
	expectArrive(t, office(), 599, single(0), railway(), single(594))
	expectArrive(t, office(), 599, span(0, 60), railway(), single(594), single(600))
	expectArrive(t, office(), 599, span(0, 61), railway(), single(594), span(600, 601))
	expectArrive(t, office(), 600, single(0), railway(), single(600))
	expectArrive(t, office(), 598, span(0, 300), back(), span(595, 599))
	expectArrive(t, office(), 598, span(0, 121), back(), span(595, 596), span(598, 599))
	expectArrive(t, office(), 598, span(0, 6000), back(), span(595, 693))
	expectArrive(t, office(), 10, span(0, 60), town(0, change(610, -10)), span(10, 11))
	expectArrive(t, office(), 9, single(10), town(0, change(600, 600), change(601, 1200), change(602, 600), change(700, 0)), single(9), single(20), single(30))
}

// What is after MaxTime does not count.
func TestArriveAtTheEnd(t *testing.T) {
	last := api.MaxTime / 60
	expectArrive(t, office(), last, single(0), office(), single(last))
	expectArrive(t, office(), last, span(0, 86400), office(), single(last))
	expectArriveError(t, office(), last, span(1, 86400), office(), api.ErrNone)
	expectArrive(t, office(), last-1, single(0), office(), single(last-1))
	expectArrive(t, office(), last-1, single(1), office(), span(last-1, last))
	expectArrive(t, office(), last-1, single(60), office(), single(last))
	expectArriveError(t, office(), last-1, single(61), office(), api.ErrNone)
	expectArrive(t, office(), last-1, span(60, 86400), town(43200), single(last+720))
	expectArrive(t, office(), last-1, span(59, 86400), town(0, change(api.MaxTime, 43200)), single(last-1), single(last+720))
	expectArrive(t, office(), 0, single(0), town(-60), single(-1))
	expectArrive(t, town(-43200), -720, span(0, 5), town(-43200), span(-720, -719))
	twice := town(600, change(api.MaxTime-100, 0))
	expectArrive(t, twice, last-1, single(0), office(), single(last-11), single(last-1))
	expectArrive(t, twice, last-1, single(300), office(), single(last-6))
	expectArriveError(t, twice, last-1, single(700), office(), api.ErrNone)
}

func TestArriveOfTowns(t *testing.T) {
	x := seeded(6)
	apart, none := 0, 0
	for i := range 600 {
		start := []int{0, api.MaxTime - 1000}[i%2]
		a, b := randomTown(x, 6, start+1, start+1000, 300), randomTown(x, 12, start+1, start+1000, 300)
		minute := start/60 + from(x, -6, 25)
		low := x.IntN(300)
		run := span(low, low+x.IntN(200))
		minutes := map[int]bool{}
		for _, leave := range instants(comes(a, minute)) {
			for at := leave + run.Low; at <= min(leave+run.High, api.MaxTime); at++ {
				minutes[minuteAt(b, at)] = true
			}
		}
		want := added(minutes)
		if len(want) == 0 {
			none++
			expectArriveError(t, a, minute, run, b, api.ErrNone)
			continue
		}
		if len(want) > 1 {
			apart++
		}
		expectArrive(t, a, minute, run, b, want...)
	}
	if apart < 100 || none < 50 {
		t.Errorf("only %d arrive in several spans, %d never", apart, none)
	}
}

func TestErrorsOfArrive(t *testing.T) {
	bad := spans(span(0, 86401), single(86401), span(-1, 0), single(-1), span(5, 4), span(86400, 0))
	for _, n := range wild() {
		bad = append(bad, span(n, 5), span(5, n), single(n))
	}
	for _, z := range goodTowns() {
		for _, run := range bad {
			for _, minute := range append(wild(), 5, 597) {
				expectArriveError(t, z, minute, run, office(), api.ErrRange)
				expectArriveError(t, office(), minute, run, z, api.ErrRange)
			}
		}
		for _, minute := range append(wild(), -722, api.MaxTime/60+722) {
			expectArriveError(t, z, minute, span(0, 86400), office(), api.ErrNone)
		}
	}
	expectArriveError(t, railway(), 597, span(0, 86400), office(), api.ErrNone)
}
