package chime_test

import (
	"slices"
	"testing"

	"turret/api"
)

// examplePairs are the pins of the chapter's example that come too soon.
func examplePairs() [][2]int { return [][2]int{{0, 19}, {3, 4}, {5, 7}, {7, 9}, {10, 11}} }

// clashesOf looks at all pairs of pins.
func clashesOf(c api.ChimeWorks) [][2]int {
	var l [][2]int
	for j, q := range c.Pins {
		for i, p := range c.Pins[:j] {
			if p.Track == q.Track && gapOf(p.At, q.At, c.Steps) < c.Hammers[p.Track/c.Tunes].Rest {
				l = append(l, [2]int{i, j})
			}
		}
	}
	slices.SortFunc(l, func(a, b [2]int) int { return slices.Compare(a[:], b[:]) })
	return l
}

// P6.2

func TestClashOfTheExample(t *testing.T) {
	c := example()
	expectClash(t, c, examplePairs()...)
	c.Hammers[0].Rest = 4
	// 12 and 16 are just 4 apart, 16 and 19 are 3 apart, and so are 0 and 3.
	expectClash(t, c, [2]int{0, 3}, [2]int{0, 19}, [2]int{3, 4}, [2]int{5, 7}, [2]int{7, 9}, [2]int{10, 11}, [2]int{16, 19})
	for h := range c.Hammers {
		c.Hammers[h].Rest = 2
	}
	expectClash(t, c, [2]int{0, 19}, [2]int{3, 4}, [2]int{10, 11})
	for rest := range 2 {
		for h := range c.Hammers {
			c.Hammers[h].Rest = rest
		}
		expectClash(t, c)
	}
}

// All pairs of steps of small barrels, with each Rest: just Rest apart, one step less, and across the end.
func TestClashOfTwoPins(t *testing.T) {
	for steps := 1; steps <= 12; steps++ {
		for a := range steps {
			for b := range steps {
				for rest := range steps + 3 {
					if a == b {
						continue
					}
					if gapOf(a, b, steps) < rest {
						expectClash(t, oneTrack(steps, 1, rest, a, b), [2]int{0, 1})
					} else {
						expectClash(t, oneTrack(steps, 1, rest, a, b))
					}
				}
			}
		}
	}
	for _, x := range []struct{ a, b, gap int }{{0, 999, 1}, {999, 0, 1}, {0, 500, 500}, {0, 501, 499}, {1, 500, 499}, {990, 10, 20}, {3, 10, 7}} {
		expectClash(t, oneTrack(1000, 10, x.gap, x.a, x.b))
		expectClash(t, oneTrack(1000, 10, x.gap+1, x.a, x.b), [2]int{0, 1})
		expectClash(t, oneTrack(1000, 10, 1000, x.a, x.b), [2]int{0, 1})
		expectClash(t, oneTrack(1000, 10, 0, x.a, x.b))
	}
}

func TestClashOfFewPins(t *testing.T) {
	expectClash(t, oneTrack(1, 1, 1000))
	expectClash(t, oneTrack(1, 1, 1000, 0))
	expectClash(t, oneTrack(1000, 1, 1000, 999))
	expectClash(t, oneTrack(2, 1, 1, 0, 1))
	expectClash(t, oneTrack(2, 1, 2, 1, 0), [2]int{0, 1})
}

// Pins of the same hammer in other tunes, and of other hammers of the same bell, do not clash.
func TestClashIsOfTracks(t *testing.T) {
	c := api.ChimeWorks{Steps: 10, Sections: 2, Runs: numbers(1), Tunes: 2, Hammers: []api.ChimeHammer{hammer(3, 5), hammer(3, 2), hammer(3, 0)}}
	c.Pins = pins(pin(0, 1), pin(1, 2), pin(2, 3), pin(3, 4), pin(4, 5), pin(5, 6))
	expectClash(t, c)
	c.Pins = pins(pin(5, 1), pin(5, 2), pin(3, 2), pin(3, 4), pin(3, 5), pin(1, 0), pin(0, 4), pin(1, 4), pin(1, 5), pin(0, 9))
	// The track 5 is of the hammer 2, the track 3 of the hammer 1, and the tracks 0 and 1 are of the hammer 0.
	expectClash(t, c, [2]int{3, 4}, [2]int{5, 7}, [2]int{7, 8})
}

func TestClashInOrder(t *testing.T) {
	expectClash(t, oneTrack(10, 1, 10, 7, 2, 9, 0), [2]int{0, 1}, [2]int{0, 2}, [2]int{0, 3}, [2]int{1, 2}, [2]int{1, 3}, [2]int{2, 3})
	expectClash(t, oneTrack(10, 1, 3, 7, 2, 9, 0), [2]int{0, 2}, [2]int{1, 3}, [2]int{2, 3})
	c := oneTrack(1000, 1, 1000)
	var want [][2]int
	for n := range 400 {
		c.Pins = append(c.Pins, pin(0, (n*617+5)%1000))
		for other := n + 1; other < 400; other++ {
			want = append(want, [2]int{n, other})
		}
	}
	expectClash(t, c, want...)
}

func TestClashAgainstAllPairs(t *testing.T) {
	x := seeded(2)
	for range 2000 {
		c := randomWorks(x, 1+x.IntN(40), 1+x.IntN(60))
		expectClash(t, c, clashesOf(c)...)
	}
	expectClash(t, greatest(), clashesOf(greatest())...)
}
