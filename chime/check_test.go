package chime_test

import (
	"math"
	"slices"
	"testing"

	"turret/api"
	"turret/chime"
)

// goodWorks are valid, and have least and greatest values.
func goodWorks() []api.ChimeWorks {
	list := []api.ChimeWorks{example(), oneTrack(1, 1, 0), oneTrack(1, 1, 0, 0), oneTrack(1, 1, 1, 0), oneTrack(20, 20, 20, 0, 19), greatest()}
	for _, change := range []func(c *api.ChimeWorks){
		func(c *api.ChimeWorks) { c.Pins = nil },
		func(c *api.ChimeWorks) { c.Pins = pins() },
		func(c *api.ChimeWorks) { c.Steps = 1000 },
		func(c *api.ChimeWorks) { c.Sections, c.Runs = 1, numbers(1) },
		func(c *api.ChimeWorks) { c.Sections, c.Runs = 20, numbers(20) },
		func(c *api.ChimeWorks) { c.Sections, c.Runs = 4, numbers(4, 1) },
		func(c *api.ChimeWorks) { c.Runs = numbers(5, 5, 5, 5, 5, 5, 5, 5) },
		func(c *api.ChimeWorks) { c.Runs = numbers(1) },
		func(c *api.ChimeWorks) { c.Tunes = 8; c.Pins = pins(pin(31, 0), pin(0, 19)) },
		func(c *api.ChimeWorks) { c.Tunes = 2; c.Pins = pins(pin(7, 19), pin(7, 18), pin(6, 19)) },
		// A hammer can need more steps than there are.
		func(c *api.ChimeWorks) {
			c.Hammers[0].Rest, c.Hammers[1].Rest, c.Hammers[2].Rest, c.Hammers[3].Rest = 0, 20, 21, 1000
		},
		func(c *api.ChimeWorks) { c.Hammers[0], c.Hammers[3] = hammer(15, 3), hammer(15, 3) },
		func(c *api.ChimeWorks) { c.Hammers = append(c.Hammers, slices.Repeat(c.Hammers, 9)...) },
	} {
		list = append(list, changed(example(), change))
	}
	return list
}

// badSections make the barrel of works invalid, or its runs.
func badSections() []func(c *api.ChimeWorks) {
	return []func(c *api.ChimeWorks){
		func(c *api.ChimeWorks) { *c = api.ChimeWorks{} },
		func(c *api.ChimeWorks) { c.Steps, c.Sections = 1001, 7 },
		func(c *api.ChimeWorks) { c.Steps, c.Sections, c.Runs = 1001, 1, numbers(1) },
		func(c *api.ChimeWorks) { c.Steps, c.Sections, c.Runs, c.Pins = 0, 0, numbers(0), nil },
		func(c *api.ChimeWorks) { c.Steps, c.Sections, c.Runs, c.Pins = 0, 1, numbers(1), nil },
		func(c *api.ChimeWorks) { c.Steps, c.Sections, c.Runs, c.Pins = -20, -5, numbers(1), nil },
		func(c *api.ChimeWorks) { c.Sections, c.Runs = 0, numbers(1) },
		func(c *api.ChimeWorks) { c.Sections, c.Runs = -1, numbers(-1) },
		func(c *api.ChimeWorks) { c.Sections, c.Runs = 3, numbers(1) },
		func(c *api.ChimeWorks) { c.Sections, c.Runs = c.Steps-1, numbers(1) },
		func(c *api.ChimeWorks) { c.Sections, c.Runs = c.Steps+1, numbers(1) },
		func(c *api.ChimeWorks) { c.Sections, c.Runs = 2*c.Steps, numbers(1) },
		func(c *api.ChimeWorks) { c.Runs = nil },
		func(c *api.ChimeWorks) { c.Runs = numbers() },
		func(c *api.ChimeWorks) { c.Runs = slices.Repeat(numbers(1), 9) },
		func(c *api.ChimeWorks) { c.Runs = slices.Repeat(numbers(1), 1000) },
		func(c *api.ChimeWorks) { c.Runs = numbers(1, 0) },
		func(c *api.ChimeWorks) { c.Runs = numbers(1, 2, c.Sections+1) },
		func(c *api.ChimeWorks) { c.Runs = numbers(c.Sections+1, 1) },
	}
}

// badParts make the tunes, hammers or pins of works invalid that have at least two pins.
func badParts() []func(c *api.ChimeWorks) {
	return []func(c *api.ChimeWorks){
		func(c *api.ChimeWorks) { c.Tunes = 0 },
		func(c *api.ChimeWorks) { c.Tunes, c.Pins = 0, nil },
		func(c *api.ChimeWorks) { c.Tunes = 9 },
		func(c *api.ChimeWorks) { c.Tunes, c.Pins = 9, nil },
		func(c *api.ChimeWorks) { c.Hammers = nil },
		func(c *api.ChimeWorks) { c.Hammers, c.Pins = nil, nil },
		func(c *api.ChimeWorks) { c.Hammers = slices.Repeat([]api.ChimeHammer{hammer(0, 0)}, 41) },
		func(c *api.ChimeWorks) { c.Hammers, c.Pins = slices.Repeat([]api.ChimeHammer{hammer(0, 0)}, 41), nil },
		func(c *api.ChimeWorks) { c.Hammers[0].Bell = 16 },
		func(c *api.ChimeWorks) { c.Hammers[0].Rest = 1001 },
		func(c *api.ChimeWorks) { c.Pins[0].Track = len(c.Hammers) * c.Tunes },
		func(c *api.ChimeWorks) { c.Pins[0].At = c.Steps },
		// Equal pins, beside each other and with others between them.
		func(c *api.ChimeWorks) { c.Pins[1] = c.Pins[0] },
		func(c *api.ChimeWorks) { c.Pins[len(c.Pins)-1] = c.Pins[0] },
		func(c *api.ChimeWorks) { c.Pins = pins(pin(0, 0), pin(0, 0)) },
		func(c *api.ChimeWorks) { c.Pins = c.Pins[:2]; c.Pins[1] = c.Pins[0] },
		func(c *api.ChimeWorks) { c.Pins = make([]api.ChimePin, 401) },
	}
}

// wildChanges put numbers that nothing allows into works.
func wildChanges() []func(c *api.ChimeWorks) {
	var list []func(c *api.ChimeWorks)
	for _, n := range wild() {
		list = append(list,
			func(c *api.ChimeWorks) { c.Steps = n },
			func(c *api.ChimeWorks) { c.Sections = n },
			func(c *api.ChimeWorks) { c.Sections, c.Runs = n, numbers(n) },
			func(c *api.ChimeWorks) { c.Runs[0] = n },
			func(c *api.ChimeWorks) { c.Runs[len(c.Runs)-1] = n },
			func(c *api.ChimeWorks) { c.Tunes = n },
			func(c *api.ChimeWorks) { c.Tunes, c.Pins = n, nil },
			func(c *api.ChimeWorks) { c.Hammers[0].Bell = n },
			func(c *api.ChimeWorks) { c.Hammers[len(c.Hammers)-1].Bell = n },
			func(c *api.ChimeWorks) { c.Hammers[0].Rest = n },
			func(c *api.ChimeWorks) { c.Hammers[len(c.Hammers)-1].Rest = n },
			func(c *api.ChimeWorks) { c.Pins[0].Track = n },
			func(c *api.ChimeWorks) { c.Pins[len(c.Pins)-1].Track = n },
			func(c *api.ChimeWorks) { c.Pins[0].At = n },
			func(c *api.ChimeWorks) { c.Pins[len(c.Pins)-1].At = n },
			func(c *api.ChimeWorks) { *c = api.ChimeWorks{Steps: n, Sections: n, Runs: numbers(n), Tunes: n} },
		)
	}
	return list
}

// manyPins returns works with so many pins, all of them different and on valid tracks and steps.
func manyPins(many int) api.ChimeWorks {
	c := example()
	c.Steps, c.Pins = 200, nil
	for n := range many {
		c.Pins = append(c.Pins, pin(n%4, n/4))
	}
	return c
}

func badWorks() []api.ChimeWorks {
	list := []api.ChimeWorks{manyPins(401), manyPins(800)}
	for _, change := range slices.Concat(badSections(), badParts(), wildChanges()) {
		list = append(list, changed(example(), change), changed(greatest(), change))
	}
	return list
}

// P6.1

func TestCheckAcceptsWorks(t *testing.T) {
	list := append(goodWorks(), manyPins(399), manyPins(400))
	for steps := 2; steps <= 60; steps++ {
		for _, sections := range divisors(steps) {
			list = append(list, oneTrack(steps, sections, steps, 0, steps-1))
		}
	}
	for _, c := range list {
		expectCheck(t, c, api.OK)
		_, e := chime.Clash(c)
		_, f := chime.Plays(c, 0, 0, 0)
		_, g := chime.Heard(c, 0, 0, nil)
		_, _, h := chime.Bring(c, 0, 0, 0)
		if e != api.OK || f != api.OK || g != api.OK || h != api.OK {
			t.Errorf("%v: the errors %v, %v, %v, %v", c, e, f, g, h)
		}
	}
}

func TestCheckSections(t *testing.T) {
	for steps := 1; steps <= 40; steps++ {
		for sections := -3; sections <= 2*steps+1; sections++ {
			want := api.ErrArg
			if slices.Contains(divisors(steps), sections) {
				want = api.OK
			}
			expectCheck(t, oneTrack(steps, sections, 0), want)
		}
	}
}

// The error of works comes first, whatever else is wrong.
func TestCheckRejectsWorks(t *testing.T) {
	for _, c := range badWorks() {
		expectCheck(t, c, api.ErrArg)
		if l, e := chime.Clash(c); len(l) != 0 || e != api.ErrArg {
			t.Errorf("Clash(%v) = %v, %v", c, l, e)
		}
		for _, r := range []runOf{{0, 0, 0}, {-1, 0, 0}, {0, 99, 0}, {0, 0, 1000}, {math.MaxInt, math.MinInt, -1}} {
			expectPlaysError(t, c, r, api.ErrArg)
			expectBringError(t, c, r, api.ErrArg)
			for _, bells := range [][]int{nil, numbers(0, 1, 2, 0), make([]int, 401)} {
				expectHeardError(t, c, r.tune, r.run, bells, api.ErrArg)
			}
		}
	}
}

// The errors of a run come after those of the works.
func TestErrorsOfRuns(t *testing.T) {
	for _, c := range goodWorks() {
		for _, n := range append(wild(), 1001) {
			for _, r := range []runOf{{n, 0, 0}, {0, n, 0}, {n, n, 0}, {n, 0, n}, {0, n, n}, {n, n, n}, {c.Tunes, 0, 0}, {0, len(c.Runs), 0}, {c.Tunes, len(c.Runs), c.Sections}} {
				expectPlaysError(t, c, r, api.ErrNone)
				expectBringError(t, c, r, api.ErrNone)
				if r.tune != 0 || r.run != 0 {
					for _, bells := range [][]int{nil, numbers(0), make([]int, 401)} {
						expectHeardError(t, c, r.tune, r.run, bells, api.ErrNone)
					}
				}
			}
			for _, section := range numbers(n, c.Sections) {
				expectPlaysError(t, c, runOf{0, 0, section}, api.ErrNone)
				expectBringError(t, c, runOf{0, 0, section}, api.ErrNone)
			}
		}
		last := runOf{c.Tunes - 1, len(c.Runs) - 1, c.Sections - 1}
		expectPlays(t, c, last, playedOf(c, last)...)
		if _, _, e := chime.Bring(c, last.tune, last.run, last.section); e != api.OK {
			t.Errorf("Bring(%v) of %v = %v", last, c, e)
		}
	}
}

// R3, R4

func TestNilAndEmpty(t *testing.T) {
	c := changed(example(), func(c *api.ChimeWorks) { c.Pins = pins() })
	d := changed(example(), func(c *api.ChimeWorks) { c.Pins = nil })
	for _, w := range []api.ChimeWorks{c, d} {
		expectClash(t, w)
		expectPlays(t, w, runOf{0, 1, 2})
		expectHeard(t, w, 0, 1, nil, 0, 1, 2, 3, 4)
		expectHeard(t, w, 0, 1, numbers(), 0, 1, 2, 3, 4)
	}
	expectFewest(t, api.ChimeTune{Steps: 5, Blows: blows()}, 3, nil)
	expectPinError(t, []api.ChimeTune{}, 3, api.ErrNone)
	expectMeet(t, cams(), 17, 17)
}

func TestArgumentsAreNotChanged(t *testing.T) {
	x := seeded(1)
	for range 100 {
		c := randomWorks(x, 30, 40)
		l := []api.ChimeTune{randomTune(x, 20, 12), randomTune(x, 20, 12)}
		bells := bellsOf(playedOf(c, runOf{}))
		before, tunes, heard := cloneWorks(c), []api.ChimeTune{cloneTune(l[0]), cloneTune(l[1])}, slices.Clone(bells)
		figures := cams(cam(4, 0, 1), cam(6, 3, 3))
		chime.Check(c)
		chime.Clash(c)
		for _, r := range runsOf(c) {
			chime.Plays(c, r.tune, r.run, r.section)
			chime.Bring(c, r.tune, r.run, r.section)
		}
		chime.Heard(c, 0, 0, bells)
		chime.Fewest(l[0], 3)
		chime.Pin(l, 3)
		chime.Meet(figures, 5)
		if !sameWorks(c, before) || !slices.Equal(bells, heard) || !sameTune(l[0], tunes[0]) || !sameTune(l[1], tunes[1]) || !slices.Equal(figures, cams(cam(4, 0, 1), cam(6, 3, 3))) {
			t.Fatalf("the arguments became %v, %v, %v, %v; they were %v, %v, %v", c, bells, l, figures, before, heard, tunes)
		}
	}
}

func TestResultsAreNew(t *testing.T) {
	c := example()
	pairs, _ := chime.Clash(c)
	pairs[0] = [2]int{99, 99}
	expectClash(t, c, examplePairs()...)
	r := runOf{0, 0, 4}
	played, _ := chime.Plays(c, r.tune, r.run, r.section)
	played[0] = blow(99, 99)
	expectPlays(t, c, r, playedOf(c, r)...)
	bells := numbers(0, 1, 2, 0)
	sections, _ := chime.Heard(c, 0, 0, bells)
	sections[0], sections[1] = 99, 98
	expectHeard(t, c, 0, 0, numbers(0, 1, 2, 0), 0, 4)
	if !sameWorks(c, example()) || !slices.Equal(bells, numbers(0, 1, 2, 0)) {
		t.Errorf("the arguments became %v, %v", c, bells)
	}
}

func TestResultsOfTunesAreNew(t *testing.T) {
	u := rings(10, 5, 0, 2, 4, 6, 8)
	want := slices.Repeat([]api.ChimeHammer{hammer(5, 3)}, 3)
	hammers, use, _ := chime.Fewest(u, 3)
	hammers[0], use[0], use[4] = hammer(9, 9), 99, 99
	expectFewest(t, u, 3, want, 0, 1, 0, 1, 2)
	l := []api.ChimeTune{u, rings(10, 5, 1)}
	c, _ := chime.Pin(l, 3)
	before := cloneWorks(c)
	c.Runs[0], c.Hammers[0], c.Pins[0] = 99, hammer(9, 9), pin(99, 99)
	expectPin(t, l, 3, before)
	if !sameTune(u, rings(10, 5, 0, 2, 4, 6, 8)) {
		t.Errorf("the tune became %v", u)
	}
}
