package pulse_test

import (
	"math"
	"slices"
	"testing"

	"turret/api"
)

// P9.2

func TestRunOfExamples(t *testing.T) {
	three := lost(10, 11, 30)
	expectRun(t, zero(60, 15), 0, 0, three, 59, 56)
	expectRun(t, zero(60, 15), 0, 0, three, 60, 60)
	double := doubled(10, 20, 30)
	expectRun(t, wait(60, 5), 0, 0, double, 55, 58)
	for _, until := range numbers(56, 57, 58, 59) {
		expectRun(t, wait(60, 5), 0, 0, double, until, 59)
	}
	expectRun(t, wait(60, 5), 0, 0, double, 60, 60)
	six := lost(row(1, 6)...)
	expectRun(t, wait(60, 5), 0, 0, six, 60, 54)
	expectRun(t, wait(60, 5), 0, 0, six, 64, 58)
	for _, until := range numbers(65, 66, 100, 119) {
		expectRun(t, wait(60, 5), 0, 0, six, until, 59)
	}
	expectRun(t, wait(60, 5), 0, 0, six, 120, 60)
	for many := range 6 {
		expectRun(t, count(60, 5), 7, 0, lost(row(20, many)...), 60, 67)
	}
	// The one across the chapters.
	expectRun(t, plain(), 0, 0, lost(10, 11), 60, 58)
}

func TestRunWithoutFaults(t *testing.T) {
	for _, l := range goodLines() {
		for _, from := range numbers(0, 1, 59, 60, 61, 719, 720, 721, 99999, 100000) {
			for _, many := range numbers(0, 1, 2, 359, 360, 719, 720, 721, 5000) {
				expectRun(t, l, from%720, from, nil, from+many, (from+many)%720)
			}
		}
	}
	// A dial that is wrong stays so without a rule.
	for _, shown := range numbers(0, 1, 300, 718, 719) {
		for _, many := range numbers(0, 1, 2, 5, 719, 720, 721, 5000) {
			expectRun(t, plain(), shown, 77, nil, 77+many, (shown+many)%720)
		}
	}
}

func TestRunOfFaults(t *testing.T) {
	for _, l := range kinds(60, 0) {
		for until, want := range map[int]int{9: 9, 10: 9, 11: 10, 59: 58} {
			expectRun(t, l, 0, 0, upTo(until, lost(10)), until, want)
		}
	}
	for until, want := range map[int]int{9: 9, 10: 11, 11: 12, 58: 59, 59: 60} {
		for _, l := range []api.PulseLine{plain(), zero(60, 0), count(60, 0)} {
			expectRun(t, l, 0, 0, upTo(until, doubled(10)), until, want)
		}
		expectRun(t, wait(60, 0), 0, 0, upTo(until, doubled(10)), until, min(want, 59))
	}
	// At the first minute and at the last one.
	for _, l := range kinds(60, 0) {
		expectRun(t, l, 5, 5, lost(6), 6, 5)
		expectRun(t, l, 5, 5, doubled(6), 6, 7)
		expectRun(t, l, 5, 5, lost(6, 7, 8), 8, 5)
		expectRun(t, l, 5, 5, doubled(6, 7, 8), 8, 11)
		expectRun(t, l, 5, 5, faults(lost(7), doubled(6, 8)), 8, 9)
	}
	expectRun(t, plain(), 700, 100000, doubled(100001, 105000), 105000, (700+5002)%720)
}

// upTo returns the faults until a minute.
func upTo(until int, list []api.PulseFault) []api.PulseFault {
	return slices.DeleteFunc(slices.Clone(list), func(f api.PulseFault) bool { return f.At > until })
}

// expectLong expects what a dial shows after a long impulse that moved it to a minute.
func expectLong(t *testing.T, l api.PulseLine, moved, want int) {
	t.Helper()
	for _, long := range numbers(l.Every, 720, 7200) {
		expectRun(t, l, (moved+719)%720, long-1, nil, long, want)
	}
}

func TestRunOfZero(t *testing.T) {
	for moved, want := range map[int]int{600: 600, 601: 600, 614: 600, 615: 600, 616: 616, 629: 629, 630: 630, 631: 631, 644: 644, 645: 660, 646: 660, 659: 660} {
		expectLong(t, zero(60, 15), moved, want)
	}
	// Round 12 o'clock.
	for moved, want := range map[int]int{703: 703, 704: 704, 705: 0, 706: 0, 719: 0, 0: 0, 1: 0, 15: 0, 16: 16} {
		expectLong(t, zero(60, 15), moved, want)
	}
	// With the greatest Reach an odd Every leaves no dial aside, an even one those just between; never are both ways within reach.
	for moved, want := range map[int]int{100: 100, 101: 100, 102: 100, 103: 105, 104: 105} {
		expectLong(t, zero(5, 2), moved, want)
	}
	for moved, want := range map[int]int{100: 100, 101: 100, 102: 102, 103: 104} {
		expectLong(t, zero(4, 1), moved, want)
	}
	for moved, want := range map[int]int{360: 360, 539: 360, 540: 540, 541: 0, 719: 0} {
		expectLong(t, zero(360, 179), moved, want)
	}
	for d := range 60 {
		expectLong(t, zero(60, 0), 120+d, 120+d)
	}
	expectLong(t, zero(2, 0), 700, 700)
	expectLong(t, zero(2, 0), 701, 701)
}

func TestRunOfWait(t *testing.T) {
	for moved, want := range map[int]int{600: 600, 601: 601, 605: 605, 606: 606, 630: 630, 653: 653, 654: 654, 655: 660, 656: 660, 659: 660} {
		expectLong(t, wait(60, 5), moved, want)
	}
	for moved, want := range map[int]int{714: 714, 715: 0, 719: 0, 0: 0, 1: 1} {
		expectLong(t, wait(60, 5), moved, want)
	}
	for d := range 60 {
		expectLong(t, wait(60, 0), 120+d, 120+d)
	}
	// It waits until a long impulse, which moves it.
	for from, many := range map[int]int{1: 59, 30: 30, 59: 1} {
		for later := range many {
			expectRun(t, wait(60, 5), 659, from, nil, from+later, 659)
		}
		expectRun(t, wait(60, 5), 659, from, nil, 60, 660)
		expectRun(t, wait(60, 5), 719, from, nil, 60, 0)
	}
	// Both moves of a doubled impulse are made, one of them, and none.
	expectRun(t, wait(60, 5), 56, 5, doubled(6), 6, 58)
	expectRun(t, wait(60, 5), 57, 5, doubled(6), 6, 59)
	expectRun(t, wait(60, 5), 58, 5, doubled(6), 6, 59)
	expectRun(t, wait(60, 5), 59, 5, doubled(6), 6, 59)
	expectRun(t, wait(60, 5), 59, 5, lost(6), 6, 59)
	expectRun(t, wait(60, 5), 59, 59, nil, 61, 61)
	expectRun(t, wait(2, 0), 6, 4, doubled(5), 5, 7)
	expectRun(t, wait(2, 0), 7, 4, doubled(5), 5, 7)
	expectRun(t, wait(2, 0), 7, 4, nil, 6, 8)
	// The other rules do not wait.
	for _, l := range []api.PulseLine{plain(), zero(60, 5), count(60, 5)} {
		expectRun(t, l, 59, 5, nil, 6, 60)
		expectRun(t, l, 59, 5, doubled(6), 6, 61)
	}
}

func TestRunOfCount(t *testing.T) {
	for _, shown := range numbers(0, 7, 300, 650, 657, 658, 659, 660, 661, 719) {
		for many := range 12 {
			late, early := shown+60, shown+60
			if many > 5 {
				late, early = late-many, early+many
			}
			expectRun(t, count(60, 5), shown, 0, lost(row(20, many)...), 60, late%720)
			expectRun(t, count(60, 5), shown, 0, doubled(row(20, many)...), 60, early%720)
			expectRun(t, count(60, 5), shown, 0, doubled(row(20, many)...), 120, (early+60)%720)
		}
		// A lost and a doubled one leave the count as it is.
		expectRun(t, count(60, 0), shown, 0, faults(lost(20), doubled(30)), 60, (shown+60)%720)
		expectRun(t, count(60, 0), shown, 0, faults(lost(20, 21), doubled(30)), 60, (shown+59)%720)
		expectRun(t, count(60, 29), shown, 0, lost(row(1, 20)...), 60, (shown+60)%720)
	}
	// The count begins as if all were right, also between two multiples.
	for _, from := range numbers(1, 30, 50, 119, 60, 61, 7230) {
		for many := range min(9, 60-from%60) {
			until := from - from%60 + 60
			end := 400 + until - from
			if many > 5 {
				end -= many
			}
			expectRun(t, count(60, 5), 400, from, lost(row(from+1, many)...), until, end)
			expectRun(t, count(60, 5), 400, from, lost(row(from+1, many)...), until+60, end+60)
		}
	}
	// It begins anew with each long impulse, and what was not corrected is not made up for.
	six := row(1, 6)
	expectRun(t, count(60, 5), 0, 0, faults(lost(six...), doubled(row(61, 5)...)), 120, 114)
	expectRun(t, count(60, 5), 0, 0, faults(lost(six...), doubled(row(61, 6)...)), 120, 120)
	expectRun(t, count(60, 5), 0, 0, faults(lost(row(1, 5)...), lost(row(61, 5)...)), 120, 120)
}

func TestRunPassesTwelve(t *testing.T) {
	for _, l := range kinds(60, 5) {
		expectRun(t, l, 715, 715, nil, 725, 5)
		expectRun(t, l, 718, 718, lost(719), 719, 718)
		expectRun(t, l, 718, 718, nil, 720, 0)
	}
	expectRun(t, plain(), 719, 0, doubled(1), 1, 1)
	expectRun(t, plain(), 718, 0, doubled(1), 1, 0)
	expectRun(t, plain(), 719, 0, lost(1), 1, 719)
	expectRun(t, plain(), 0, 0, lost(1), 720, 719)
	expectRun(t, plain(), 0, 0, doubled(1), 719, 0)
}

func TestErrorsOfRun(t *testing.T) {
	long := lost(row(1, 21)...)
	for _, l := range kinds(60, 5) {
		for _, from := range append(wild(), -1, 100001) {
			for _, shown := range numbers(0, -1, 720) {
				expectRunError(t, l, shown, from, nil, from, api.ErrRange)
				expectRunError(t, l, shown, from, long, 0, api.ErrRange)
			}
		}
		for _, shown := range append(wild(), -1, 720) {
			for _, until := range numbers(5, 60, 4, 5006, math.MinInt) {
				expectRunError(t, l, shown, 5, nil, until, api.ErrArg)
				expectRunError(t, l, shown, 5, long, until, api.ErrArg)
			}
		}
		for _, from := range numbers(0, 5, 100000) {
			expectRun(t, l, 0, from, nil, from, 0)
			expectRun(t, l, 719, from, nil, from, 719)
			for _, until := range append(wild(), from-1, from+5001) {
				expectRunError(t, l, 0, from, nil, until, api.ErrRange)
				expectRunError(t, l, 0, from, long, until, api.ErrRange)
				expectRunError(t, l, 0, from, lost(from), until, api.ErrRange)
			}
		}
		expectRunError(t, l, 0, 0, long, 50, api.ErrLong)
		expectRunError(t, l, 0, 0, long, 10, api.ErrLong)
		expectRunError(t, l, 0, 0, make([]api.PulseFault, 21), 50, api.ErrLong)
		expectRun(t, l, 0, 0, long[:20], 50, 30)
	}
}

// expectFaultsError expects that faults have an error in Run and in Back.
func expectFaultsError(t *testing.T, l api.PulseLine, from int, list []api.PulseFault, want api.Errno) {
	t.Helper()
	for _, until := range numbers(from+100, from+5000) {
		expectRunError(t, l, from%720, from, list, until, want)
	}
	expectBackError(t, l, from, list, want)
}

func TestErrorsOfFaults(t *testing.T) {
	for _, l := range kinds(60, 5) {
		for _, from := range numbers(0, 30, 59, 60, 100000) {
			for _, n := range append(wild(), from-1, from, from+5001) {
				expectFaultsError(t, l, from, lost(n), api.ErrArg)
				expectFaultsError(t, l, from, lost(from+2, n), api.ErrArg)
				expectFaultsError(t, l, from, doubled(n, from+2), api.ErrArg)
			}
			for _, list := range [][]int{{5, 5}, {5, 4}, {3, 9, 9}, {3, 9, 8}, {9, 3, 10}, {7, 7, 8}} {
				for i := range list {
					list[i] += from - from%60 + 60
				}
				expectFaultsError(t, l, from, lost(list...), api.ErrArg)
				expectFaultsError(t, l, from, doubled(list...), api.ErrArg)
			}
			both := append(lost(from+62), doubled(from+62)...)
			expectFaultsError(t, l, from, both, api.ErrArg)
			for _, kind := range append(wild(), -1, 0, 3, 4, 257, 258) {
				bad := api.PulseFault{At: from - from%60 + 70, Kind: api.PulseKind(kind)}
				good := lost(bad.At - 1)[0]
				expectFaultsError(t, l, from, []api.PulseFault{bad}, api.ErrArg)
				expectFaultsError(t, l, from, []api.PulseFault{good, bad}, api.ErrArg)
			}
			expectFaultsError(t, l, from, make([]api.PulseFault, 20), api.ErrArg)
			expectFaultsError(t, l, from, make([]api.PulseFault, 21), api.ErrLong)
		}
		// Just beyond until.
		expectRun(t, l, 10, 10, lost(50), 50, 49)
		expectRunError(t, l, 10, 10, lost(51), 50, api.ErrArg)
		expectRunError(t, l, 10, 10, lost(20, 51), 50, api.ErrArg)
		expectRunError(t, l, 10, 10, lost(10), 10, api.ErrArg)
	}
}

// Long impulses are neither lost nor doubled; with PulsePlain there are none.
func TestErrorsOfLongImpulses(t *testing.T) {
	for _, every := range divisors() {
		for _, n := range numbers(every, 2*every, 720, 3600) {
			for _, f := range [][]api.PulseFault{lost(n), doubled(n), lost(1, n), doubled(1, n, n+1)} {
				for _, l := range ruled(every, 0) {
					expectRunError(t, l, 0, 0, f, 5000, api.ErrArg)
					expectBackError(t, l, 0, f, api.ErrArg)
				}
				expectRun(t, plain(), 0, 0, f, 4320, shows(plain(), 0, 0, f, 4320))
			}
		}
		for _, l := range ruled(every, 0) {
			for _, n := range numbers(1, every-1, every+1, 719, 721) {
				expectRun(t, l, 0, 0, lost(n), n, (n-1)%720)
			}
		}
	}
}

func TestRunAgainstLooks(t *testing.T) {
	x := seeded(2)
	for range 3000 {
		l := randomLine(x, divisors()...)
		from, shown := x.IntN(api.MaxPulseTime+1), x.IntN(api.PulseDial)
		until := from + x.IntN(1+[]int{12, 100, 800}[x.IntN(3)])
		f := randomFaults(x, l, from, until, x.IntN(api.MaxPulseFaults+1))
		expectRun(t, l, shown, from, f, until, shows(l, shown, from, f, until))
	}
}

// Dials with an error that come near the multiples of Every.
func TestRunAgainstLooksNearMultiples(t *testing.T) {
	x := seeded(3)
	for range 3000 {
		l := randomLine(x, 2, 3, 4, 5, 6, 9, 10)
		from, shown := x.IntN(100), x.IntN(30)
		until := from + 1 + x.IntN(60)
		f := randomFaults(x, l, from, until, api.MaxPulseFaults)
		expectRun(t, l, shown, from, f, until, shows(l, shown, from, f, until))
	}
}
