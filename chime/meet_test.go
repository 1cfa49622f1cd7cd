package chime_test

import (
	"math/rand/v2"
	"testing"

	"turret/api"
	"turret/chime"
	"turret/train"
)

// allOut reports whether all figures are out at a step.
func allOut(l []api.ChimeCam, step int) bool {
	for _, c := range l {
		if at := step % c.Steps; at < c.Out.Low || at > c.Out.High {
			return false
		}
	}
	return true
}

// product returns a number of steps that all turns divide.
func product(l []api.ChimeCam) int {
	n := 1
	for _, c := range l {
		n *= c.Steps
	}
	return n
}

// metOf goes on step by step, until all cams are as at first.
func metOf(l []api.ChimeCam, from int) (step int, found bool) {
	for later := range product(l) {
		if allOut(l, from+later) {
			return from + later, true
		}
	}
	return 0, false
}

func expectMetOf(t *testing.T, l []api.ChimeCam, from int) {
	t.Helper()
	if step, found := metOf(l, from); found {
		expectMeet(t, l, from, step)
	} else {
		expectMeetError(t, l, from, api.ErrNone)
	}
}

func randomCam(x *rand.Rand, most int) api.ChimeCam {
	steps := 1 + x.IntN(most)
	low := x.IntN(steps)
	return cam(steps, low, low+x.IntN(1+x.IntN(steps-low)))
}

func randomCams(x *rand.Rand, many, most int) []api.ChimeCam {
	var l []api.ChimeCam
	for range many {
		l = append(l, randomCam(x, most))
	}
	return l
}

// P6.8

func TestMeetOfTheExample(t *testing.T) {
	l := cams(cam(4, 0, 1), cam(6, 3, 3))
	expectMeet(t, l, 0, 9)
	expectMeet(t, l, 9, 9)
	expectMeet(t, l, 10, 21)
	expectMeet(t, cams(l[1], l[0]), 0, 9)
	never := cams(cam(4, 1, 1), cam(6, 2, 2))
	for from := range 30 {
		expectMetOf(t, l, from)
		expectMeetError(t, never, from, api.ErrNone)
	}
	expectMeetError(t, never, api.MaxTime, api.ErrNone)
}

// Example 7 of those across the chapters.
func TestMeetOfAWheelAndAPinion(t *testing.T) {
	turns, e := train.Cycle([]api.TrainPair{{Wheel: 20, Pinion: 12}})
	l := cams(cam(20, 0, 0), cam(12, 0, 0))
	expectMeet(t, l, 0, 0)
	if turns != 3 || e != api.OK {
		t.Errorf("Cycle = %d, %v", turns, e)
	}
	expectMeet(t, l, 1, turns*20)
	expectMeet(t, l, 60, 60)
}

func TestMeetOfFewCams(t *testing.T) {
	for _, from := range numbers(0, 1, 17, 99, 100, api.MaxTime-1, api.MaxTime) {
		// Without a cam all figures are out; so they are if they are out at all steps.
		expectMeet(t, nil, from, from)
		expectMeet(t, cams(cam(1, 0, 0)), from, from)
		expectMeet(t, cams(cam(100, 0, 99)), from, from)
		expectMeet(t, cams(cam(100, 0, 99), cam(7, 0, 6), cam(1, 0, 0)), from, from)
		// One that is out at one step decides among those that always are.
		expectMeet(t, cams(cam(100, 0, 99), cam(7, 3, 3), cam(1, 0, 0)), from, from+(3-from%7+7)%7)
		for _, c := range cams(cam(2, 0, 0), cam(2, 1, 1), cam(100, 0, 0), cam(100, 99, 99), cam(100, 40, 60), cam(3, 1, 2), cam(3, 0, 1), cam(99, 98, 98)) {
			expectMetOf(t, cams(c), from)
			expectMetOf(t, cams(c, c), from)
			expectMetOf(t, cams(c, c, c), from)
		}
	}
	// A figure is out at both ends of its span, and not beside them.
	for from, want := range numbers(3, 3, 3, 3, 4, 5, 13, 13, 13, 13, 13, 13, 13, 13, 14, 15, 23) {
		expectMeet(t, cams(cam(10, 3, 5)), from, want)
	}
}

func TestMeetLate(t *testing.T) {
	// 97, 99 and 100 have no common divisor: the last step of all is the one before their product.
	l := cams(cam(97, 96, 96), cam(99, 98, 98), cam(100, 99, 99))
	expectMeet(t, l, 0, 97*99*100-1)
	expectMeet(t, l, 97*99*100-1, 97*99*100-1)
	expectMeet(t, l, 97*99*100, 2*97*99*100-1)
	turns := api.MaxTime / (97 * 99 * 100)
	expectMeet(t, l, api.MaxTime, (turns+1)*97*99*100-1)
	for _, from := range numbers(0, 5, api.MaxTime-12345, api.MaxTime) {
		expectMetOf(t, cams(cam(97, 50, 50), cam(99, 3, 3), cam(100, 77, 77)), from)
	}
	expectMeetError(t, cams(cam(99, 50, 50), cam(100, 3, 3), cam(98, 76, 76)), 0, api.ErrNone)
	expectMeetError(t, cams(cam(97, 50, 50), cam(100, 0, 49), cam(100, 50, 99)), 0, api.ErrNone)
}

func TestMeetStepByStep(t *testing.T) {
	x := seeded(15)
	for range 2000 {
		expectMetOf(t, randomCams(x, x.IntN(4), 1+x.IntN(12)), x.IntN(1000))
	}
	for range 200 {
		expectMetOf(t, randomCams(x, 2, 100), x.IntN(api.MaxTime+1))
	}
	for range 20 {
		expectMetOf(t, randomCams(x, 3, 100), x.IntN(api.MaxTime+1))
	}
}

func TestErrorsOfMeet(t *testing.T) {
	good := cam(4, 0, 1)
	bad := cams(api.ChimeCam{}, cam(0, 0, 0), cam(101, 0, 0), cam(4, 2, 1), cam(4, 0, 4), cam(4, 4, 4), cam(4, -1, 1), cam(4, -2, -1), cam(4, 3, 0), cam(1, 0, 1), cam(1, 1, 1), cam(100, 0, 100), cam(-4, 0, 1), cam(-4, -3, -2))
	for _, n := range wild() {
		bad = append(bad, cam(n, 0, 0), cam(4, n, 1), cam(4, 0, n), cam(4, n, n), cam(n, n, n))
	}
	froms := append(wild(), api.MaxTime+1, api.MaxTime+100)
	for _, from := range append(froms, 0, 5, api.MaxTime) {
		for _, c := range bad {
			for _, l := range [][]api.ChimeCam{cams(c), cams(c, good), cams(good, c), cams(good, good, c), cams(c, c, c)} {
				expectMeetError(t, l, from, api.ErrArg)
			}
			expectMeetError(t, cams(c, c, c, c), from, api.ErrLong)
		}
		expectMeetError(t, cams(good, good, good, good), from, api.ErrLong)
		expectMeetError(t, make([]api.ChimeCam, 100), from, api.ErrLong)
	}
	never := cams(cam(4, 1, 1), cam(6, 2, 2))
	for _, from := range froms {
		expectMeetError(t, nil, from, api.ErrRange)
		expectMeetError(t, cams(good), from, api.ErrRange)
		expectMeetError(t, cams(good, good, good), from, api.ErrRange)
		expectMeetError(t, never, from, api.ErrRange)
	}
	expectMeet(t, cams(good, good, good), 0, 0)
	expectMeet(t, cams(good, good, good), api.MaxTime, api.MaxTime)
}

// P6.14

func TestAllFigures(t *testing.T) {
	x := seeded(16)
	for range 1000 {
		l := randomCams(x, 1+x.IntN(3), 1+x.IntN(20))
		from := x.IntN(5000)
		step, e := chime.Meet(l, from)
		more := product(l) * (1 + x.IntN(3))
		if e == api.ErrNone {
			expectMeetError(t, l, from+more, api.ErrNone)
			continue
		}
		if e != api.OK || step < from || !allOut(l, step) {
			t.Fatalf("Meet(%v, %d) = %d, %v", l, from, step, e)
		}
		for before := from; before < step; before++ {
			if allOut(l, before) {
				t.Fatalf("Meet(%v, %d) = %d; all are out at %d", l, from, step, before)
			}
			expectMeet(t, l, before, step)
		}
		expectMeet(t, l, from+more, step+more)
	}
}
