package pulse_test

import (
	"testing"

	"turret/api"
)

// P9.3

func TestBackOfExamples(t *testing.T) {
	expectBack(t, zero(60, 15), 0, lost(10, 11, 30), 60)
	expectBackError(t, plain(), 0, lost(10), api.ErrNone)
	expectBackError(t, plain(), 0, doubled(10), api.ErrNone)
	expectBack(t, plain(), 0, faults(lost(10), doubled(20)), 20)
	expectBack(t, plain(), 0, faults(doubled(10), lost(20)), 20)
	expectBack(t, wait(60, 5), 0, doubled(10, 20, 30), 59)
	expectBackError(t, wait(60, 5), 0, lost(row(1, 6)...), api.ErrNone)
}

func TestBackWithoutFaults(t *testing.T) {
	for _, l := range goodLines() {
		for _, from := range numbers(0, 1, 30, 59, 60, 61, 719, 720, 721, 99999, 100000) {
			expectBack(t, l, from, nil, from)
		}
	}
}

// It is right after the last fault at once: then this is the minute, though it was right before.
func TestBackAtOnce(t *testing.T) {
	for _, l := range kinds(60, 5) {
		expectBack(t, l, 0, faults(lost(10), doubled(20)), 20)
		expectBack(t, l, 0, faults(lost(10), doubled(11)), 11)
		expectBack(t, l, 0, faults(lost(10), doubled(20), lost(30), doubled(40)), 40)
		expectBack(t, l, 55, faults(lost(58), doubled(59)), 59)
		expectBack(t, l, 100000, faults(lost(104996), doubled(104999)), 104999)
	}
	// The dial waits already when the last one is doubled, or lost.
	expectBack(t, wait(60, 5), 0, doubled(58, 59), 59)
	expectBack(t, wait(60, 5), 0, doubled(59), 59)
	expectBack(t, wait(60, 5), 0, faults(doubled(58), lost(59)), 59)
	expectBack(t, wait(60, 5), 0, faults(doubled(50), lost(52)), 52)
	expectBack(t, wait(60, 5), 0, faults(doubled(30), lost(59)), 59)
	expectBack(t, wait(2, 0), 0, doubled(1), 1)
	// Before the last one it was right again.
	for _, l := range ruled(60, 5) {
		expectBack(t, l, 0, faults(lost(10), lost(70), doubled(80)), 80)
	}
}

func TestBackAtTheNextMultiple(t *testing.T) {
	for _, l := range ruled(60, 5) {
		for _, first := range numbers(1, 30, 55) {
			for many := 1; many <= 5; many++ {
				expectBack(t, l, 0, lost(row(first, many)...), 60)
				expectBack(t, l, 0, lost(row(660+first, many)...), 720)
				expectBack(t, l, 0, faults(lost(row(first, many)...), lost(row(1020+first, many)...)), 1080)
			}
			expectBackError(t, l, 0, lost(row(first-first/55, 6)...), api.ErrNone)
		}
	}
	for many := 1; many <= 20; many++ {
		list := doubled(row(1, many)...)
		if many <= 5 {
			expectBack(t, zero(60, 5), 0, list, 60)
			expectBack(t, count(60, 5), 0, list, 60)
		} else {
			expectBackError(t, zero(60, 5), 0, list, api.ErrNone)
			expectBackError(t, count(60, 5), 0, list, api.ErrNone)
		}
		expectBack(t, wait(60, 5), 0, list, 59)
	}
	// The count begins between two multiples.
	expectBack(t, count(60, 5), 30, lost(row(31, 5)...), 60)
	expectBackError(t, count(60, 5), 30, lost(row(31, 6)...), api.ErrNone)
	expectBack(t, count(60, 5), 59, lost(61), 120)
	expectBack(t, zero(360, 179), 100000, lost(100001), 100080)
}

// Where it waits it falls back by Every, and so comes round 12 o'clock: it is right again in the minute before a multiple, for which it waits.
func TestBackAtALaterMultiple(t *testing.T) {
	expectBackError(t, wait(360, 0), 0, lost(1), api.ErrNone)
	expectBack(t, wait(360, 0), 0, lost(1, 721), 1439)
	expectBack(t, wait(360, 0), 0, lost(1, 1079), 1439)
	expectBackError(t, wait(360, 0), 0, faults(lost(1, 721), doubled(730)), api.ErrNone)
	expectBack(t, wait(360, 0), 0, faults(lost(1, 721), doubled(1081)), 1439)
	expectBack(t, wait(360, 3), 0, lost(1, 2, 3, 4, 721, 722, 723, 724), 1439)
	expectBackError(t, wait(360, 4), 0, lost(1, 2, 3, 4, 5, 721, 722, 723, 724), api.ErrNone)
	expectBackError(t, wait(360, 0), 0, lost(1, 721, 1441), api.ErrNone)
	expectBack(t, wait(360, 0), 0, lost(1, 721, 1441, 2161), 2879)
	expectBackError(t, wait(240, 0), 0, lost(1, 481), api.ErrNone)
	expectBack(t, wait(240, 0), 0, lost(1, 481, 961), 1439)
	expectBack(t, wait(60, 0), 0, lost(1, 121, 241, 361, 481, 601, 721, 841, 961, 1081, 1201, 1321), 1439)
}

// A dial can be right after the last fault, and is then put wrong for good.
func TestBackThatDoesNotLast(t *testing.T) {
	list := faults(lost(row(1, 6)...), doubled(row(61, 7)...), lost(121))
	expectRun(t, count(60, 5), 0, 0, list, 121, 121)
	expectRun(t, count(60, 5), 0, 0, list, 179, 179)
	expectRun(t, count(60, 5), 0, 0, list, 180, 181)
	expectBackError(t, count(60, 5), 0, list, api.ErrNone)
	expectBack(t, zero(60, 5), 0, faults(lost(row(1, 6)...), doubled(row(61, 6)...)), 66)
	expectBack(t, count(60, 5), 0, faults(lost(row(1, 6)...), doubled(row(61, 6)...)), 66)
	// It is wrong between two minutes at which it is right.
	expectBack(t, plain(), 0, faults(lost(10), doubled(20), doubled(30), lost(40)), 40)
}

func TestErrorsOfBack(t *testing.T) {
	long := lost(row(1, 21)...)
	for _, l := range kinds(60, 5) {
		for _, from := range append(wild(), -1, -720, 100001) {
			for _, list := range [][]api.PulseFault{nil, long, lost(0, 0), lost(from)} {
				expectBackError(t, l, from, list, api.ErrRange)
			}
		}
		expectBackError(t, l, 0, long, api.ErrLong)
		expectBackError(t, l, 100, long, api.ErrLong)
		expectBackError(t, l, 0, make([]api.PulseFault, 21), api.ErrLong)
		expectBackError(t, l, 0, make([]api.PulseFault, 20), api.ErrArg)
		for _, from := range numbers(0, 100000) {
			expectBackError(t, l, from, lost(from+5001), api.ErrArg)
			expectBackError(t, l, from, lost(from), api.ErrArg)
		}
	}
	// The last minute that is allowed.
	for _, l := range ruled(60, 5) {
		expectBack(t, l, 0, lost(5000), 5040)
		expectBack(t, l, 99999, lost(104999), 105000)
		expectBackError(t, l, 100000, lost(105000), api.ErrArg)
	}
	expectBack(t, plain(), 100000, faults(lost(100001), doubled(105000)), 105000)
	// As many as are allowed.
	expectBack(t, plain(), 0, faults(lost(row(1, 10)...), doubled(row(11, 10)...)), 20)
	expectBack(t, zero(60, 20), 0, lost(row(1, 20)...), 60)
}

// backOf returns from when on a dial is right, and false if it is never right; from the last fault on it is looked at for four times half a day.
func backOf(l api.PulseLine, from int, list []api.PulseFault) (int, bool) {
	last := from
	for _, f := range list {
		last = f.At
	}
	until := last + 4*api.PulseDial
	all := looks(l, from%api.PulseDial, from, list, until)
	first := until + 1
	for first > last && all[first-1-from].shown() == (first-1)%api.PulseDial {
		first--
	}
	return first, first <= until
}

func TestBackAgainstLooks(t *testing.T) {
	x := seeded(4)
	found, many := 0, 1500
	for range many {
		l := randomLine(x, divisors()...)
		from := x.IntN(api.MaxPulseTime + 1)
		list := randomFaults(x, l, from, from+1+x.IntN([]int{6, 60, 600}[x.IntN(3)]), x.IntN(9))
		if want, right := backOf(l, from, list); right {
			found++
			expectBack(t, l, from, list, want)
		} else {
			expectBackError(t, l, from, list, api.ErrNone)
		}
	}
	if found < many/10 || found > many*9/10 {
		t.Errorf("%d of %d dials are right again: the test sees too little", found, many)
	}
}

// Dials that come round 12 o'clock.
func TestBackAgainstLooksFarOff(t *testing.T) {
	x := seeded(5)
	for range 200 {
		l := randomLine(x, 180, 240, 360)
		l.Reach = x.IntN(2)
		if l.Rule == api.PulsePlain {
			l = wait(360, 0)
		}
		list := randomFaults(x, l, 0, 4000, 4+x.IntN(12))
		if want, right := backOf(l, 0, list); right {
			expectBack(t, l, 0, list, want)
		} else {
			expectBackError(t, l, 0, list, api.ErrNone)
		}
	}
}
