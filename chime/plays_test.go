package chime_test

import (
	"slices"
	"testing"

	"turret/api"
	"turret/chime"
)

// P6.3

func TestPlaysTheExample(t *testing.T) {
	c := example()
	expectPlays(t, c, runOf{0, 0, 0}, blow(0, 0), blow(1, 1), blow(2, 2), blow(3, 0))
	expectPlays(t, c, runOf{0, 0, 3}, blow(0, 0), blow(1, 1), blow(2, 2), blow(3, 3))
	expectPlays(t, c, runOf{0, 1, 2}, blow(0, 0), blow(1, 1), blow(2, 2), blow(3, 2), blow(4, 0), blow(5, 1), blow(6, 2), blow(7, 3))
	// Over the end of the barrel.
	expectPlays(t, c, runOf{0, 1, 4}, blow(0, 0), blow(1, 1), blow(2, 2), blow(3, 0), blow(4, 0), blow(5, 1), blow(6, 2), blow(7, 0))
	expectPlays(t, c, runOf{0, 2, 3},
		blow(0, 0), blow(1, 1), blow(2, 2), blow(3, 3), blow(4, 0), blow(5, 1), blow(6, 2), blow(7, 0), blow(8, 0), blow(9, 1), blow(10, 2), blow(11, 0))
}

// The pins stand in any order; those at the same step strike in order of the tracks, whatever their bells are.
func TestPlaysInOrder(t *testing.T) {
	c := api.ChimeWorks{Steps: 6, Sections: 3, Runs: numbers(1, 3), Tunes: 1, Hammers: []api.ChimeHammer{hammer(9, 0), hammer(15, 0), hammer(0, 0), hammer(9, 0)}}
	c.Pins = pins(pin(3, 1), pin(2, 1), pin(0, 5), pin(1, 1), pin(0, 1), pin(3, 0), pin(2, 4))
	expectPlays(t, c, runOf{0, 0, 0}, blow(0, 9), blow(1, 9), blow(1, 15), blow(1, 0), blow(1, 9))
	expectPlays(t, c, runOf{0, 0, 1})
	expectPlays(t, c, runOf{0, 0, 2}, blow(0, 0), blow(1, 9))
	expectPlays(t, c, runOf{0, 1, 0}, blow(0, 9), blow(1, 9), blow(1, 15), blow(1, 0), blow(1, 9), blow(4, 0), blow(5, 9))
	expectPlays(t, c, runOf{0, 1, 1}, blow(2, 0), blow(3, 9), blow(4, 9), blow(5, 9), blow(5, 15), blow(5, 0), blow(5, 9))
	expectPlays(t, c, runOf{0, 1, 2}, blow(0, 0), blow(1, 9), blow(2, 9), blow(3, 9), blow(3, 15), blow(3, 0), blow(3, 9))
}

// Shifted sideways, the barrel plays another tune with the same hammers.
func TestPlaysTunes(t *testing.T) {
	c := api.ChimeWorks{Steps: 4, Sections: 2, Runs: numbers(2, 1), Tunes: 3, Hammers: []api.ChimeHammer{hammer(7, 0), hammer(2, 0)}}
	c.Pins = pins(pin(0, 0), pin(1, 1), pin(2, 2), pin(3, 3), pin(4, 0), pin(5, 1), pin(5, 2))
	expectPlays(t, c, runOf{0, 0, 0}, blow(0, 7), blow(3, 2))
	expectPlays(t, c, runOf{1, 0, 0}, blow(0, 2), blow(1, 7))
	expectPlays(t, c, runOf{2, 0, 0}, blow(1, 2), blow(2, 7), blow(2, 2))
	expectPlays(t, c, runOf{2, 0, 1}, blow(0, 7), blow(0, 2), blow(3, 2))
	expectPlays(t, c, runOf{2, 1, 1}, blow(0, 7), blow(0, 2))
	expectPlays(t, c, runOf{1, 1, 1})
}

func TestPlaysAtTheEnds(t *testing.T) {
	expectPlays(t, oneTrack(1, 1, 1000), runOf{})
	expectPlays(t, oneTrack(1, 1, 1000, 0), runOf{}, blow(0, 0))
	c := oneTrack(1000, 1, 0, 999, 0, 500)
	expectPlays(t, c, runOf{}, blow(0, 0), blow(500, 0), blow(999, 0))
	c.Sections, c.Runs = 1000, numbers(1, 1000, 999, 501)
	for section := range 1000 {
		if section == 0 || section == 500 || section == 999 {
			expectPlays(t, c, runOf{0, 0, section}, blow(0, 0))
		} else {
			expectPlays(t, c, runOf{0, 0, section})
		}
	}
	expectPlays(t, c, runOf{0, 1, 999}, blow(0, 0), blow(1, 0), blow(501, 0))
	expectPlays(t, c, runOf{0, 1, 1}, blow(499, 0), blow(998, 0), blow(999, 0))
	expectPlays(t, c, runOf{0, 2, 1}, blow(499, 0), blow(998, 0))
	expectPlays(t, c, runOf{0, 3, 999}, blow(0, 0), blow(1, 0))
	expectPlays(t, c, runOf{0, 3, 0}, blow(0, 0), blow(500, 0))
}

func TestPlaysStepByStep(t *testing.T) {
	x := seeded(3)
	for range 150 {
		c := randomWorks(x, 1+x.IntN(24), 1+x.IntN(50))
		for _, r := range runsOf(c) {
			expectPlays(t, c, r, playedOf(c, r)...)
		}
	}
	for _, r := range []runOf{{0, 0, 0}, {7, 7, 999}, {3, 4, 500}} {
		expectPlays(t, greatest(), r, playedOf(greatest(), r)...)
	}
}

// P6.9

// turnedBy counts how often each bell was struck at each step of the barrel, in all runs from a section on until the barrel has turned whole times.
func turnedBy(t *testing.T, c api.ChimeWorks, tune, run, section int) (struck map[api.ChimeBlow]int, turns int) {
	t.Helper()
	struck = map[api.ChimeBlow]int{}
	gone, at := 0, section
	for gone == 0 || gone%c.Sections != 0 {
		l, e := chime.Plays(c, tune, run, at)
		if e != api.OK {
			t.Fatalf("Plays(%v, %d, %d, %d) = %v", c, tune, run, at, e)
		}
		for _, b := range l {
			struck[blow((at*c.Steps/c.Sections+b.At)%c.Steps, b.Bell)]++
		}
		gone += c.Runs[run]
		at = (at + c.Runs[run]) % c.Sections
		run = (run + 1) % len(c.Runs)
	}
	return struck, gone / c.Sections
}

func TestTurnByTurn(t *testing.T) {
	x := seeded(4)
	list := []api.ChimeWorks{example(), oneTrack(1, 1, 0, 0), changed(example(), func(c *api.ChimeWorks) { c.Runs = numbers(5, 4, 3, 5) })}
	for range 300 {
		list = append(list, randomWorks(x, 1+x.IntN(24), 40))
	}
	for _, c := range list {
		tune, run, section := x.IntN(c.Tunes), x.IntN(len(c.Runs)), x.IntN(c.Sections)
		struck, turns := turnedBy(t, c, tune, run, section)
		want := map[api.ChimeBlow]int{}
		for _, p := range c.Pins {
			if p.Track%c.Tunes == tune {
				want[blow(p.At, c.Hammers[p.Track/c.Tunes].Bell)] += turns
			}
		}
		for b := range want {
			if struck[b] != want[b] {
				t.Fatalf("%v, tune %d from the run %d at %d: %v strikes %d times in %d turns; want %d", c, tune, run, section, b, struck[b], turns, want[b])
			}
		}
		if len(struck) != len(want) {
			t.Fatalf("%v: struck %v; want %v", c, struck, want)
		}
	}
}

// An hour can be longer than a turn, and a run just a turn.
func TestRunsOfATurn(t *testing.T) {
	c := example()
	c.Runs = numbers(5, 5, 2)
	for section := range 5 {
		for run := range 2 {
			r := runOf{0, run, section}
			expectPlays(t, c, r, playedOf(c, r)...)
			if l := playedOf(c, r); len(l) != 20 || !slices.IsSortedFunc(l, compareBlows) {
				t.Errorf("%v: %v", r, l)
			}
		}
	}
}
