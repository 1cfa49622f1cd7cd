package chime_test

import (
	"testing"

	"turret/api"
	"turret/chime"
)

// P6.5

func TestBringTheExample(t *testing.T) {
	c := example()
	expectBring(t, c, runOf{0, 2, 1}, 2, 8)
	for run, begins := range numbers(0, 1, 3, 1) {
		for section := range 5 {
			sections := (begins - section + 5) % 5
			expectBring(t, c, runOf{0, run, section}, sections, 4*sections)
		}
	}
	// In an hour with 3 sections more, each run comes to all sections.
	c.Runs = numbers(1, 2, 3, 4, 3)
	for _, r := range runsOf(c) {
		expectBring(t, c, r, 0, 0)
	}
}

// Of several numbers of sections with as many blows, the least one is meant.
func TestTiesInBring(t *testing.T) {
	c := oneTrack(8, 4, 0)
	c.Runs = numbers(2)
	// In step it begins at 0 and at 2.
	for section, want := range numbers(0, 1, 0, 1) {
		expectBring(t, c, runOf{0, 0, section}, want, 0)
	}
	c = oneTrack(12, 6, 0, 0, 1, 6, 7)
	c.Runs = numbers(3, 1, 2)
	// The run 0 begins at 0 only, the run 1 at 3, the run 2 at 4; just the sections 0 and 3 have pins.
	for section, want := range numbers(0, 5, 4, 3, 2, 1) {
		expectBring(t, c, runOf{0, 0, section}, want, numbers(0, 2, 2, 2, 0, 0)[section])
	}
	for section, want := range numbers(3, 2, 1, 0, 5, 4) {
		expectBring(t, c, runOf{0, 1, section}, want, numbers(2, 0, 0, 0, 2, 2)[section])
	}
	for section, want := range numbers(4, 3, 2, 1, 0, 5) {
		expectBring(t, c, runOf{0, 2, section}, want, numbers(4, 2, 2, 2, 0, 4)[section])
	}
	// An hour of 9 sections: each run begins at two sections, three apart.
	c.Runs = numbers(3, 1, 5)
	for section, want := range numbers(1, 0, 2, 1, 0, 2) {
		expectBring(t, c, runOf{0, 2, section}, want, numbers(2, 0, 2, 2, 0, 2)[section])
	}
}

// The blows by hand are those of the tune that the barrel is at.
func TestBringInTunes(t *testing.T) {
	c := api.ChimeWorks{Steps: 6, Sections: 3, Runs: numbers(1, 2), Tunes: 2, Hammers: []api.ChimeHammer{hammer(1, 0), hammer(1, 0)}}
	c.Pins = pins(pin(0, 2), pin(2, 2), pin(2, 3), pin(1, 4), pin(3, 0))
	for section, want := range numbers(0, 2, 1) {
		expectBring(t, c, runOf{0, 0, section}, want, numbers(0, 3, 0)[section])
		expectBring(t, c, runOf{1, 0, section}, want, numbers(0, 1, 1)[section])
	}
	for section, want := range numbers(1, 0, 2) {
		expectBring(t, c, runOf{0, 1, section}, want, numbers(0, 0, 0)[section])
		expectBring(t, c, runOf{1, 1, section}, want, numbers(1, 0, 2)[section])
	}
}

func TestBringAtTheEnds(t *testing.T) {
	expectBring(t, oneTrack(1, 1, 0, 0), runOf{}, 0, 0)
	expectBring(t, oneTrack(1000, 1, 0, 0, 999), runOf{}, 0, 0)
	c := oneTrack(1000, 1000, 0, 999, 0, 1, 500)
	c.Runs = numbers(1000, 1000)
	for run := range 2 {
		expectBring(t, c, runOf{0, run, 0}, 0, 0)
		expectBring(t, c, runOf{0, run, 1}, 999, 3)
		expectBring(t, c, runOf{0, run, 2}, 998, 2)
		expectBring(t, c, runOf{0, run, 500}, 500, 2)
		expectBring(t, c, runOf{0, run, 501}, 499, 1)
		expectBring(t, c, runOf{0, run, 999}, 1, 1)
	}
	c.Runs = numbers(1, 999)
	expectBring(t, c, runOf{0, 1, 0}, 1, 1)
	expectBring(t, c, runOf{0, 1, 1}, 0, 0)
	expectBring(t, c, runOf{0, 1, 2}, 999, 3)
}

func TestBringAgainstAllNumbersOfSections(t *testing.T) {
	x := seeded(7)
	for range 200 {
		c := randomWorks(x, 1+x.IntN(36), 1+x.IntN(20))
		for _, r := range runsOf(c) {
			sections, struck := broughtOf(c, r)
			expectBring(t, c, r, sections, struck)
		}
	}
}

// P6.11

func TestIntoStep(t *testing.T) {
	x := seeded(8)
	for range 200 {
		c := randomWorks(x, 1+x.IntN(24), 1+x.IntN(20))
		r := runOf{x.IntN(c.Tunes), x.IntN(len(c.Runs)), x.IntN(c.Sections)}
		sections, struck, e := chime.Bring(c, r.tune, r.run, r.section)
		in := inStep(c, r.run)
		if e != api.OK || sections < 0 || sections >= c.Sections || !in[(r.section+sections)%c.Sections] {
			t.Fatalf("Bring(%v) of %v = %d, %d, %v: not in step", r, c, sections, struck, e)
		}
		for n := range c.Sections {
			if many := len(turnedOn(c, r.tune, r.section, n)); in[(r.section+n)%c.Sections] && many < struck {
				t.Fatalf("Bring(%v) of %v = %d, %d; %d sections have %d blows", r, c, sections, struck, n, many)
			}
		}
		// Brought into step, it needs none.
		r.section = (r.section + sections) % c.Sections
		expectBring(t, c, r, 0, 0)
	}
}

func TestInStepAlready(t *testing.T) {
	x := seeded(9)
	for range 200 {
		c := randomWorks(x, 1+x.IntN(24), 20)
		section := 0
		for range 20 {
			for run, sections := range c.Runs {
				expectBring(t, c, runOf{x.IntN(c.Tunes), run, section}, 0, 0)
				section = (section + sections) % c.Sections
			}
		}
	}
}
