package chime_test

import (
	"cmp"
	"math"
	"math/rand/v2"
	"slices"
	"testing"

	"turret/api"
	"turret/chime"
)

func span(low, high int) api.Span { return api.Span{Low: low, High: high} }

func numbers(n ...int) []int { return n }

// wild are numbers that nothing allows.
func wild() []int {
	return numbers(-1, -2, -100, math.MinInt, math.MinInt+1, math.MaxInt-1, math.MaxInt)
}

// upTo returns the numbers from first to last.
func upTo(first, last int) []int {
	var list []int
	for n := first; n <= last; n++ {
		list = append(list, n)
	}
	return list
}

func seeded(n uint64) *rand.Rand { return rand.New(rand.NewPCG(n, 6)) }

// pick returns one of a list.
func pick[T any](x *rand.Rand, list []T) T { return list[x.IntN(len(list))] }

func hammer(bell, rest int) api.ChimeHammer { return api.ChimeHammer{Bell: bell, Rest: rest} }

func pin(track, at int) api.ChimePin { return api.ChimePin{Track: track, At: at} }

func pins(p ...api.ChimePin) []api.ChimePin { return p }

func blow(at, bell int) api.ChimeBlow { return api.ChimeBlow{At: at, Bell: bell} }

func blows(b ...api.ChimeBlow) []api.ChimeBlow { return b }

func tune(steps int, b ...api.ChimeBlow) api.ChimeTune { return api.ChimeTune{Steps: steps, Blows: b} }

// rings returns a tune of one bell.
func rings(steps, bell int, at ...int) api.ChimeTune {
	t := tune(steps)
	for _, a := range at {
		t.Blows = append(t.Blows, blow(a, bell))
	}
	return t
}

func cam(steps, low, high int) api.ChimeCam { return api.ChimeCam{Steps: steps, Out: span(low, high)} }

func cams(c ...api.ChimeCam) []api.ChimeCam { return c }

// example are the works of the chapter's examples.
func example() api.ChimeWorks {
	c := api.ChimeWorks{Steps: 20, Sections: 5, Runs: numbers(1, 2, 3, 4), Tunes: 1}
	for bell := range 4 {
		c.Hammers = append(c.Hammers, hammer(bell, 3))
	}
	for s := range 5 {
		c.Pins = append(c.Pins, pin(0, 4*s), pin(1, 4*s+1), pin(2, 4*s+2), pin(s%4, 4*s+3))
	}
	return c
}

// oneTrack returns works with one tune and one hammer.
func oneTrack(steps, sections, rest int, at ...int) api.ChimeWorks {
	c := api.ChimeWorks{Steps: steps, Sections: sections, Runs: numbers(1), Tunes: 1, Hammers: []api.ChimeHammer{hammer(0, rest)}}
	for _, a := range at {
		c.Pins = append(c.Pins, pin(0, a))
	}
	return c
}

// greatest returns works in which all is as great as it can be: 400 pins, the first and the last of which are at both ends.
func greatest() api.ChimeWorks {
	c := api.ChimeWorks{Steps: 1000, Sections: 1000, Runs: slices.Repeat(numbers(1000), 8), Tunes: 8}
	c.Hammers = slices.Repeat([]api.ChimeHammer{hammer(15, 1000)}, 40)
	for n := range 400 {
		c.Pins = append(c.Pins, pin(n*319/399, n*999/399))
	}
	return c
}

func cloneWorks(c api.ChimeWorks) api.ChimeWorks {
	c.Runs, c.Hammers, c.Pins = slices.Clone(c.Runs), slices.Clone(c.Hammers), slices.Clone(c.Pins)
	return c
}

// changed returns works that are as these, but for a change.
func changed(c api.ChimeWorks, change func(c *api.ChimeWorks)) api.ChimeWorks {
	c = cloneWorks(c)
	change(&c)
	return c
}

func sameWorks(a, b api.ChimeWorks) bool {
	return a.Steps == b.Steps && a.Sections == b.Sections && a.Tunes == b.Tunes &&
		slices.Equal(a.Runs, b.Runs) && slices.Equal(a.Hammers, b.Hammers) && slices.Equal(a.Pins, b.Pins)
}

// divisors returns all numbers that divide n.
func divisors(n int) []int {
	var list []int
	for d := 1; d <= n; d++ {
		if n%d == 0 {
			list = append(list, d)
		}
	}
	return list
}

// randomWorks returns works with at most so many steps and pins.
func randomWorks(x *rand.Rand, steps, many int) api.ChimeWorks {
	c := api.ChimeWorks{Steps: 1 + x.IntN(steps), Tunes: 1 + x.IntN(3)}
	c.Sections = pick(x, divisors(c.Steps))
	for range 1 + x.IntN(8) {
		c.Runs = append(c.Runs, 1+x.IntN(c.Sections))
	}
	for range 1 + x.IntN(5) {
		c.Hammers = append(c.Hammers, hammer(x.IntN(4), x.IntN(c.Steps+2)))
	}
	for range x.IntN(many + 1) {
		p := pin(x.IntN(len(c.Hammers)*c.Tunes), x.IntN(c.Steps))
		if !slices.Contains(c.Pins, p) {
			c.Pins = append(c.Pins, p)
		}
	}
	return c
}

// runOf is which tune, run and section of some works are played.
type runOf struct{ tune, run, section int }

// runsOf returns all runs of works.
func runsOf(c api.ChimeWorks) []runOf {
	var list []runOf
	for tune := range c.Tunes {
		for run := range c.Runs {
			for section := range c.Sections {
				list = append(list, runOf{tune, run, section})
			}
		}
	}
	return list
}

// turnedOn returns what is played, step by step and track by track, while a barrel turns on by so many sections.
func turnedOn(c api.ChimeWorks, tune, section, sections int) []api.ChimeBlow {
	length := c.Steps / c.Sections
	var l []api.ChimeBlow
	for at := range sections * length {
		step := (section*length + at) % c.Steps
		for h := range c.Hammers {
			if slices.Contains(c.Pins, pin(h*c.Tunes+tune, step)) {
				l = append(l, blow(at, c.Hammers[h].Bell))
			}
		}
	}
	return l
}

func playedOf(c api.ChimeWorks, r runOf) []api.ChimeBlow {
	return turnedOn(c, r.tune, r.section, c.Runs[r.run])
}

func bellsOf(l []api.ChimeBlow) []int {
	var bells []int
	for _, b := range l {
		bells = append(bells, b.Bell)
	}
	return bells
}

// inStep reports for each section whether a run begins there in some hour, if the barrel is in step: it follows all hours until they are as at first.
func inStep(c api.ChimeWorks, run int) []bool {
	in := make([]bool, c.Sections)
	section := 0
	for hour := 0; hour == 0 || section != 0; hour++ {
		for i, sections := range c.Runs {
			if i == run {
				in[section] = true
			}
			section = (section + sections) % c.Sections
		}
	}
	return in
}

// broughtOf looks at all numbers of sections.
func broughtOf(c api.ChimeWorks, r runOf) (sections, struck int) {
	in := inStep(c, r.run)
	struck = math.MaxInt
	for n := range c.Sections {
		if !in[(r.section+n)%c.Sections] {
			continue
		}
		if many := len(turnedOn(c, r.tune, r.section, n)); many < struck {
			sections, struck = n, many
		}
	}
	return sections, struck
}

// gapOf returns how many steps two steps of a turn are apart, by going on from each to the other.
func gapOf(a, b, steps int) int {
	gap := 0
	for a != b {
		gap++
		a = (a + 1) % steps
	}
	return min(gap, (steps-gap)%steps)
}

// compareBlows orders blows by their steps, then by their bells.
func compareBlows(a, b api.ChimeBlow) int {
	return cmp.Or(cmp.Compare(a.At, b.At), cmp.Compare(a.Bell, b.Bell))
}

func expectCheck(t *testing.T, c api.ChimeWorks, want api.Errno) {
	t.Helper()
	if e := chime.Check(c); e != want {
		t.Errorf("Check(%v) = %v; want %v", c, e, want)
	}
}

func expectClash(t *testing.T, c api.ChimeWorks, want ...[2]int) {
	t.Helper()
	if l, e := chime.Clash(c); e != api.OK || !slices.Equal(l, want) {
		t.Errorf("Clash(%v) = %v, %v; want %v", c, l, e, want)
	}
}

func expectPlays(t *testing.T, c api.ChimeWorks, r runOf, want ...api.ChimeBlow) {
	t.Helper()
	if l, e := chime.Plays(c, r.tune, r.run, r.section); e != api.OK || !slices.Equal(l, want) {
		t.Errorf("Plays(%v) of %v = %v, %v; want %v", r, c, l, e, want)
	}
}

func expectPlaysError(t *testing.T, c api.ChimeWorks, r runOf, want api.Errno) {
	t.Helper()
	if l, e := chime.Plays(c, r.tune, r.run, r.section); len(l) != 0 || e != want {
		t.Errorf("Plays(%v) of %v = %v, %v; want the error %v", r, c, l, e, want)
	}
}

func expectHeard(t *testing.T, c api.ChimeWorks, tune, run int, bells []int, want ...int) {
	t.Helper()
	if l, e := chime.Heard(c, tune, run, bells); e != api.OK || !slices.Equal(l, want) {
		t.Errorf("Heard(%d, %d, %v) of %v = %v, %v; want %v", tune, run, bells, c, l, e, want)
	}
}

func expectHeardError(t *testing.T, c api.ChimeWorks, tune, run int, bells []int, want api.Errno) {
	t.Helper()
	if l, e := chime.Heard(c, tune, run, bells); len(l) != 0 || e != want {
		t.Errorf("Heard(%d, %d, %v) of %v = %v, %v; want the error %v", tune, run, bells, c, l, e, want)
	}
}

func expectBring(t *testing.T, c api.ChimeWorks, r runOf, sections, struck int) {
	t.Helper()
	if s, b, e := chime.Bring(c, r.tune, r.run, r.section); s != sections || b != struck || e != api.OK {
		t.Errorf("Bring(%v) of %v = %d, %d, %v; want %d, %d", r, c, s, b, e, sections, struck)
	}
}

func expectBringError(t *testing.T, c api.ChimeWorks, r runOf, want api.Errno) {
	t.Helper()
	if s, b, e := chime.Bring(c, r.tune, r.run, r.section); s != 0 || b != 0 || e != want {
		t.Errorf("Bring(%v) of %v = %d, %d, %v; want the error %v", r, c, s, b, e, want)
	}
}

func expectFewest(t *testing.T, u api.ChimeTune, rest int, hammers []api.ChimeHammer, use ...int) {
	t.Helper()
	if h, l, e := chime.Fewest(u, rest); e != api.OK || !slices.Equal(h, hammers) || !slices.Equal(l, use) {
		t.Errorf("Fewest(%v, %d) = %v, %v, %v; want %v, %v", u, rest, h, l, e, hammers, use)
	}
}

func expectFewestError(t *testing.T, u api.ChimeTune, rest int, want api.Errno) {
	t.Helper()
	if h, l, e := chime.Fewest(u, rest); len(h)+len(l) != 0 || e != want {
		t.Errorf("Fewest(%v, %d) = %v, %v, %v; want the error %v", u, rest, h, l, e, want)
	}
}

func expectPin(t *testing.T, l []api.ChimeTune, rest int, want api.ChimeWorks) {
	t.Helper()
	if c, e := chime.Pin(l, rest); e != api.OK || !sameWorks(c, want) {
		t.Errorf("Pin(%v, %d) = %v, %v; want %v", l, rest, c, e, want)
	}
}

func expectPinError(t *testing.T, l []api.ChimeTune, rest int, want api.Errno) {
	t.Helper()
	if c, e := chime.Pin(l, rest); !sameWorks(c, api.ChimeWorks{}) || e != want {
		t.Errorf("Pin(%v, %d) = %v, %v; want the error %v", l, rest, c, e, want)
	}
}

func expectMeet(t *testing.T, l []api.ChimeCam, from, want int) {
	t.Helper()
	if step, e := chime.Meet(l, from); step != want || e != api.OK {
		t.Errorf("Meet(%v, %d) = %d, %v; want %d", l, from, step, e, want)
	}
}

func expectMeetError(t *testing.T, l []api.ChimeCam, from int, want api.Errno) {
	t.Helper()
	if step, e := chime.Meet(l, from); step != 0 || e != want {
		t.Errorf("Meet(%v, %d) = %d, %v; want the error %v", l, from, step, e, want)
	}
}
