package chime_test

import (
	"math"
	"slices"
	"testing"

	"turret/api"
	"turret/chime"
)

// heardOf looks at all sections.
func heardOf(c api.ChimeWorks, tune, run int, bells []int) []int {
	var sections []int
	for section := range c.Sections {
		if slices.Equal(bellsOf(playedOf(c, runOf{tune, run, section})), bells) {
			sections = append(sections, section)
		}
	}
	return sections
}

// P6.4

func TestHeardInTheExample(t *testing.T) {
	c := example()
	expectHeard(t, c, 0, 0, numbers(0, 1, 2, 0), 0, 4)
	expectHeard(t, c, 0, 0, numbers(0, 1, 2, 1), 1)
	expectHeard(t, c, 0, 0, numbers(0, 1, 2, 3), 3)
	expectHeard(t, c, 0, 1, numbers(0, 1, 2, 0, 0, 1, 2, 0), 4)
	expectHeard(t, c, 0, 1, numbers(0, 1, 2, 0, 0, 1, 2, 1), 0)
	// Just these bells, all of them, in this order, and of this run.
	for _, bells := range [][]int{nil, {0}, {0, 1, 2}, {0, 1, 2, 0, 0}, {0, 0, 1, 2}, {1, 0, 2, 0}, {0, 1, 2, 0, 0, 1, 2, 1}, {0, 1, 2, 4}, {0, 1, 2, 16}, {0, 1, 2, -1}, {math.MinInt}, {math.MaxInt}} {
		expectHeard(t, c, 0, 0, bells)
	}
}

// When they are struck does not matter, but their order does.
func TestHeardInOrder(t *testing.T) {
	c := api.ChimeWorks{Steps: 12, Sections: 4, Runs: numbers(1, 2), Tunes: 2, Hammers: []api.ChimeHammer{hammer(5, 0), hammer(3, 0)}}
	c.Pins = pins(pin(2, 2), pin(0, 0), pin(0, 3), pin(2, 3), pin(2, 6), pin(0, 8), pin(1, 11), pin(3, 9))
	expectHeard(t, c, 0, 0, numbers(5, 3), 0, 1)
	expectHeard(t, c, 0, 0, numbers(3, 5), 2)
	expectHeard(t, c, 0, 0, nil, 3)
	expectHeard(t, c, 0, 1, numbers(5, 3), 3)
	expectHeard(t, c, 0, 1, numbers(3, 5), 2)
	expectHeard(t, c, 0, 1, numbers(5, 3, 3, 5), 1)
	expectHeard(t, c, 0, 1, numbers(5, 3, 5, 3), 0)
	expectHeard(t, c, 1, 0, nil, 0, 1, 2)
	expectHeard(t, c, 1, 0, numbers(3, 5), 3)
	expectHeard(t, c, 1, 1, numbers(3, 5), 2, 3)
	expectHeard(t, c, 1, 1, nil, 0, 1)
}

func TestHeardNoOrManyBells(t *testing.T) {
	c := manyPins(400)
	c.Sections, c.Runs = 200, numbers(200, 100, 1)
	all := slices.Repeat(numbers(0, 1, 2, 3), 100)
	// The pins are at the steps 0 to 99: only runs of a turn that begin behind them have all, in this order.
	expectHeard(t, c, 0, 0, all, upTo(0, 199)...)
	expectHeard(t, c, 0, 0, all[1:])
	expectHeard(t, c, 0, 1, all, 0)
	expectHeard(t, c, 0, 1, nil, 100)
	expectHeard(t, c, 0, 2, nil, upTo(100, 199)...)
	expectHeard(t, c, 0, 2, all[:4], upTo(0, 99)...)
	expectHeard(t, c, 0, 2, all)
	for _, bells := range [][]int{append(slices.Clone(all), 0), make([]int, 401), make([]int, 5000), slices.Repeat(wild(), 100)} {
		expectHeardError(t, c, 0, 0, bells, api.ErrLong)
		expectHeardError(t, example(), 0, 3, bells, api.ErrLong)
		expectHeardError(t, c, 1, 0, bells, api.ErrNone)
		expectHeardError(t, c, 0, 3, bells, api.ErrNone)
		expectHeardError(t, c, -1, -1, bells, api.ErrNone)
	}
	expectHeard(t, c, 0, 0, make([]int, 400))
	expectHeard(t, example(), 0, 0, make([]int, 400))
	expectHeard(t, oneTrack(1, 1, 0), 0, 0, nil, 0)
	expectHeard(t, oneTrack(1, 1, 0, 0), 0, 0, nil)
	expectHeard(t, oneTrack(1, 1, 0, 0), 0, 0, numbers(0), 0)
}

func TestHeardAgainstAllSections(t *testing.T) {
	x := seeded(5)
	for range 400 {
		c := randomWorks(x, 1+x.IntN(24), 1+x.IntN(24))
		tune, run := x.IntN(c.Tunes), x.IntN(len(c.Runs))
		bells := bellsOf(playedOf(c, runOf{tune, run, x.IntN(c.Sections)}))
		lists := [][]int{nil, bells, append(slices.Clone(bells), x.IntN(4))}
		if len(bells) > 1 {
			other := slices.Clone(bells)
			slices.Reverse(other)
			lists = append(lists, other, bells[1:], bells[:len(bells)-1])
		}
		for _, l := range lists {
			expectHeard(t, c, tune, run, l, heardOf(c, tune, run, l)...)
		}
	}
}

func TestHeardOnTheGreatestBarrel(t *testing.T) {
	c := greatest()
	for tune := range 8 {
		many := 0
		for _, p := range c.Pins {
			if p.Track%8 == tune {
				many++
			}
		}
		expectHeard(t, c, tune, 7, slices.Repeat(numbers(15), many), upTo(0, 999)...)
		expectHeard(t, c, tune, 0, slices.Repeat(numbers(15), many+1))
	}
}

// P6.10

func TestWhatIsHeard(t *testing.T) {
	x := seeded(6)
	for range 150 {
		c := randomWorks(x, 1+x.IntN(24), 1+x.IntN(30))
		for _, r := range runsOf(c) {
			played, _ := chime.Plays(c, r.tune, r.run, r.section)
			sections, e := chime.Heard(c, r.tune, r.run, bellsOf(played))
			if e != api.OK || !slices.Contains(sections, r.section) || !slices.IsSorted(sections) {
				t.Fatalf("Heard(%v) of %v = %v, %v", r, c, sections, e)
			}
		}
	}
}
