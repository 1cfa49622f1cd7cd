package chime_test

import (
	"math/rand/v2"
	"slices"
	"testing"

	"turret/api"
	"turret/chime"
)

func cloneTune(u api.ChimeTune) api.ChimeTune {
	u.Blows = slices.Clone(u.Blows)
	return u
}

func sameTune(a, b api.ChimeTune) bool {
	return a.Steps == b.Steps && slices.Equal(a.Blows, b.Blows)
}

// randomTune returns a tune with these steps and at most so many blows.
func randomTune(x *rand.Rand, steps, many int) api.ChimeTune {
	u := tune(steps)
	bells := 1 + x.IntN(4)
	same := map[int]int{}
	for range x.IntN(many + 1) {
		b := blow(x.IntN(steps), 5*x.IntN(bells))
		if same[b.Bell] < 8 && !slices.Contains(u.Blows, b) {
			same[b.Bell]++
			u.Blows = append(u.Blows, b)
		}
	}
	return u
}

// rested reports whether no blow comes too soon, with these numbers of hammers; bells do not share hammers.
func rested(u api.ChimeTune, rest int, use []int) bool {
	for i, a := range u.Blows {
		for j, b := range u.Blows[:i] {
			if use[i] == use[j] && (a.Bell != b.Bell || gapOf(a.At, b.At, u.Steps) < rest) {
				return false
			}
		}
	}
	return true
}

// allLists returns all lists of so many numbers that are less than most, in ascending order.
func allLists(many, most int) [][]int {
	lists := [][]int{nil}
	for range many {
		var longer [][]int
		for _, l := range lists {
			for n := range most {
				longer = append(longer, append(slices.Clone(l), n))
			}
		}
		lists = longer
	}
	return lists
}

// bellsIn returns the bells of a tune, in ascending order.
func bellsIn(u api.ChimeTune) []int {
	bells := bellsOf(u.Blows)
	slices.Sort(bells)
	return slices.Compact(bells)
}

// onlyBell returns the blows of a tune on a bell.
func onlyBell(u api.ChimeTune, bell int) api.ChimeTune {
	other := func(b api.ChimeBlow) bool { return b.Bell != bell }
	return tune(u.Steps, slices.DeleteFunc(slices.Clone(u.Blows), other)...)
}

// enough reports whether a tune can be played with so many hammers for a bell.
func enough(u api.ChimeTune, rest, bell, many int) bool {
	only := onlyBell(u, bell)
	fits := func(use []int) bool { return rested(only, rest, use) }
	return slices.ContainsFunc(allLists(len(only.Blows), many), fits)
}

// fewestOf looks at all numbers of hammers, and then at all lists of hammers: it is for few blows.
func fewestOf(u api.ChimeTune, rest int) (hammers []api.ChimeHammer, use []int) {
	for _, bell := range bellsIn(u) {
		many := 1
		for !enough(u, rest, bell, many) {
			many++
		}
		hammers = append(hammers, slices.Repeat([]api.ChimeHammer{hammer(bell, rest)}, many)...)
	}
	for _, l := range allLists(len(u.Blows), len(hammers)) {
		right := true
		for i, b := range u.Blows {
			right = right && hammers[l[i]].Bell == b.Bell
		}
		if right && rested(u, rest, l) {
			return hammers, l
		}
	}
	return hammers, nil
}

// smallest returns the smallest one of the lists of hammers for the blows of one bell that have as few hammers as possible. In it no hammer is used before all with less numbers are: so only such lists are looked at, in ascending order.
func smallest(u api.ChimeTune, rest int) []int {
	var best []int
	var extend func(l []int, most int)
	extend = func(l []int, most int) {
		if best != nil && most >= slices.Max(best) || !rested(tune(u.Steps, u.Blows[:len(l)]...), rest, l) {
			return // it needs as many as one that is smaller, or a blow comes too soon
		}
		if len(l) == len(u.Blows) {
			best = l
			return
		}
		for n := range most + 2 {
			extend(append(slices.Clone(l), n), max(most, n))
		}
	}
	extend(nil, -1)
	return best
}

// fewestByBell looks at each bell alone.
func fewestByBell(u api.ChimeTune, rest int) (hammers []api.ChimeHammer, use []int) {
	use = make([]int, len(u.Blows))
	for _, bell := range bellsIn(u) {
		own := smallest(onlyBell(u, bell), rest)
		first := len(hammers)
		hammers = append(hammers, slices.Repeat([]api.ChimeHammer{hammer(bell, rest)}, slices.Max(own)+1)...)
		for i, b := range u.Blows {
			if b.Bell == bell {
				use[i] = first + own[0]
				own = own[1:]
			}
		}
	}
	return hammers, use
}

func same(bell, rest, many int) []api.ChimeHammer {
	return slices.Repeat([]api.ChimeHammer{hammer(bell, rest)}, many)
}

// fullTune returns a tune with so many blows, eight of each bell.
func fullTune(steps, many int) api.ChimeTune {
	u := tune(steps)
	for n := range many {
		u.Blows = append(u.Blows, blow(n%8*(steps-1)/7, n/8))
	}
	return u
}

// P6.6

func TestFewestOfTheExample(t *testing.T) {
	expectFewest(t, rings(10, 5, 0, 2, 4, 6, 8), 3, same(5, 3, 3), 0, 1, 0, 1, 2)
	expectFewest(t, rings(10, 5, 0, 2, 4, 6, 8), 2, same(5, 2, 1), 0, 0, 0, 0, 0)
	expectFewest(t, rings(10, 5, 0, 2, 4, 6, 8), 4, same(5, 4, 3), 0, 1, 0, 1, 2)
	expectFewest(t, rings(10, 5, 0, 2, 4, 6, 8), 5, same(5, 5, 5), 0, 1, 2, 3, 4)
}

func TestFewestWithRest(t *testing.T) {
	for _, rest := range numbers(0, 1) {
		expectFewest(t, rings(3, 0, 2, 0, 1), rest, same(0, rest, 1), 0, 0, 0)
	}
	for rest := range 11 {
		// 0 and 5 are five steps apart, however one goes.
		if rest <= 5 {
			expectFewest(t, rings(10, 15, 0, 5), rest, same(15, rest, 1), 0, 0)
		} else {
			expectFewest(t, rings(10, 15, 0, 5), rest, same(15, rest, 2), 0, 1)
		}
		expectFewest(t, rings(10, 15, 4), rest, same(15, rest, 1), 0)
		expectFewest(t, rings(10, 15), rest, nil)
	}
	// Across the end of the turn.
	expectFewest(t, rings(10, 1, 9, 1), 2, same(1, 2, 1), 0, 0)
	expectFewest(t, rings(10, 1, 9, 1), 3, same(1, 3, 2), 0, 1)
	expectFewest(t, rings(10, 1, 1, 9), 3, same(1, 3, 2), 0, 1)
	expectFewest(t, fullTune(8, 8), 8, same(0, 8, 8), 0, 1, 2, 3, 4, 5, 6, 7)
	expectFewest(t, fullTune(1000, 8), 1000, same(0, 1000, 8), 0, 1, 2, 3, 4, 5, 6, 7)
	expectFewest(t, fullTune(1000, 8), 0, same(0, 0, 1), 0, 0, 0, 0, 0, 0, 0, 0)
	expectFewest(t, rings(1, 0, 0), 1, same(0, 1, 1), 0)
	expectFewest(t, rings(1, 0, 0), 0, same(0, 0, 1), 0)
	expectFewest(t, rings(1, 15), 1, nil)
}

// Hammers are in order of the bells, and blows use those of their bell.
func TestFewestOfBells(t *testing.T) {
	u := tune(10, blow(3, 7), blow(3, 2), blow(4, 7), blow(0, 15), blow(8, 2), blow(9, 0), blow(4, 2))
	expectFewest(t, u, 2, []api.ChimeHammer{hammer(0, 2), hammer(2, 2), hammer(2, 2), hammer(7, 2), hammer(7, 2), hammer(15, 2)}, 3, 1, 4, 5, 1, 0, 2)
	expectFewest(t, u, 1, []api.ChimeHammer{hammer(0, 1), hammer(2, 1), hammer(7, 1), hammer(15, 1)}, 2, 1, 2, 3, 1, 0, 1)
	expectFewest(t, tune(5, blow(0, 3), blow(0, 1), blow(0, 2)), 5, []api.ChimeHammer{hammer(1, 5), hammer(2, 5), hammer(3, 5)}, 2, 0, 1)
	all := tune(1)
	var hammers []api.ChimeHammer
	for bell := range 16 {
		all.Blows = append(all.Blows, blow(0, 15-bell))
		hammers = append(hammers, hammer(bell, 1))
	}
	expectFewest(t, all, 1, hammers, 15, 14, 13, 12, 11, 10, 9, 8, 7, 6, 5, 4, 3, 2, 1, 0)
}

// Who takes the first hammer that is free, blow by blow, can need one more than there must be.
func TestTiesInFewest(t *testing.T) {
	// A row of four, each too near to the next one: its ends come first.
	expectFewest(t, rings(20, 4, 0, 6, 2, 4), 3, same(4, 3, 2), 0, 1, 1, 0)
	expectFewest(t, rings(20, 4, 0, 4, 2, 6), 3, same(4, 3, 2), 0, 0, 1, 1)
	expectFewest(t, rings(20, 4, 6, 0, 4, 2), 3, same(4, 3, 2), 0, 1, 1, 0)
	// A ring of six with two hammers, and one of seven with three.
	expectFewest(t, rings(12, 4, 0, 6, 2, 4, 8, 10), 3, same(4, 3, 2), 0, 1, 1, 0, 0, 1)
	expectFewest(t, rings(14, 4, 0, 2, 4, 6, 8, 10, 12), 3, same(4, 3, 3), 0, 1, 0, 1, 0, 1, 2)
	expectFewest(t, rings(14, 4, 12, 10, 8, 6, 4, 2, 0), 3, same(4, 3, 3), 0, 1, 0, 1, 0, 1, 2)
	// Never more than three at once, but four hammers, as three would have to change at the end of the turn.
	expectFewest(t, rings(8, 4, 0, 1, 2, 3, 4, 5, 6, 7), 3, same(4, 3, 4), 0, 1, 2, 0, 3, 1, 2, 3)
}

func TestFewestAgainstAllLists(t *testing.T) {
	x := seeded(10)
	for range 400 {
		u := randomTune(x, 1+x.IntN(12), 6)
		rest := x.IntN(u.Steps + 1)
		hammers, use := fewestOf(u, rest)
		expectFewest(t, u, rest, hammers, use...)
	}
}

func TestFewestOfLongTunes(t *testing.T) {
	x := seeded(11)
	for n := range 500 {
		steps := 1 + x.IntN(30)
		if n%10 == 0 {
			steps = 1000
		}
		u := randomTune(x, steps, 40)
		rest := x.IntN(1 + x.IntN(u.Steps+1))
		hammers, use := fewestByBell(u, rest)
		expectFewest(t, u, rest, hammers, use...)
	}
	for _, rest := range numbers(0, 1, 142, 143, 200, 500, 999, 1000) {
		hammers, use := fewestByBell(fullTune(1000, 60), rest)
		expectFewest(t, fullTune(1000, 60), rest, hammers, use...)
	}
}

// badTunes are not valid.
func badTunes() []api.ChimeTune {
	list := []api.ChimeTune{
		{}, tune(0, blow(0, 0)), tune(1001), tune(1001, blow(0, 0)), fullTune(1000, 61), fullTune(1000, 128), tune(10, make([]api.ChimeBlow, 61)...),
		tune(10, blow(10, 0)), tune(10, blow(9, 0), blow(-1, 0)), tune(10, blow(9, 16)), tune(10, blow(9, 0), blow(9, -1)), tune(1, blow(1, 0)),
		tune(10, blow(3, 3), blow(3, 3)), tune(10, blow(3, 3), blow(4, 3), blow(3, 4), blow(3, 3)),
		rings(10, 0, 0, 1, 2, 3, 4, 5, 6, 7, 8), rings(1000, 15, 0, 100, 200, 300, 400, 500, 600, 700, 800),
		tune(20, append(rings(20, 3, 0, 1, 2, 3, 4, 5, 6, 7).Blows, blow(0, 4), blow(8, 3))...),
	}
	for _, n := range wild() {
		list = append(list, tune(n), tune(n, blow(0, 0)), tune(10, blow(n, 0)), tune(10, blow(0, n)), tune(10, blow(0, 0), blow(1, 0), blow(n, n)))
	}
	return list
}

func TestErrorsOfFewest(t *testing.T) {
	for _, u := range badTunes() {
		for _, rest := range append(wild(), 0, 1, 5, u.Steps, 1000, 1001) {
			expectFewestError(t, u, rest, api.ErrArg)
		}
	}
	for _, u := range []api.ChimeTune{tune(1), rings(1, 0, 0), rings(10, 5, 0, 2, 4, 6, 8), tune(1000), rings(1000, 15, 999), fullTune(1000, 60), fullTune(8, 60)} {
		for _, rest := range append(wild(), u.Steps+1, u.Steps+2, 1001) {
			expectFewestError(t, u, rest, api.ErrRange)
		}
		for _, rest := range numbers(0, u.Steps) {
			if _, _, e := chime.Fewest(u, rest); e != api.OK {
				t.Errorf("Fewest(%v, %d) = %v", u, rest, e)
			}
		}
	}
}

// P6.12

// tooSoon returns whether a blow comes too soon with the hammers that were returned.
func tooSoon(u api.ChimeTune, hammers []api.ChimeHammer, use []int) bool {
	if len(use) != len(u.Blows) {
		return true
	}
	for i, b := range u.Blows {
		if use[i] < 0 || use[i] >= len(hammers) || hammers[use[i]].Bell != b.Bell {
			return true
		}
		for j, other := range u.Blows[:i] {
			if use[i] == use[j] && gapOf(b.At, other.At, u.Steps) < hammers[use[i]].Rest {
				return true
			}
		}
	}
	return false
}

func TestEnoughHammers(t *testing.T) {
	x := seeded(12)
	for range 400 {
		u := randomTune(x, 1+x.IntN(20), 20)
		rest := x.IntN(1 + x.IntN(u.Steps+1))
		hammers, use, e := chime.Fewest(u, rest)
		if e != api.OK || tooSoon(u, hammers, use) {
			t.Fatalf("Fewest(%v, %d) = %v, %v, %v: a blow comes too soon", u, rest, hammers, use, e)
		}
		for _, h := range hammers {
			if h.Rest != rest {
				t.Fatalf("Fewest(%v, %d) = %v", u, rest, hammers)
			}
		}
		for _, bell := range bellsIn(u) {
			many := 0
			for _, h := range hammers {
				if h.Bell == bell {
					many++
				}
			}
			only := onlyBell(u, bell)
			if many > 1 && slices.Max(smallest(only, rest))+1 < many {
				t.Fatalf("Fewest(%v, %d) = %v: the bell %d needs less", u, rest, hammers, bell)
			}
			if many > 1 && len(only.Blows) <= 6 && enough(u, rest, bell, many-1) {
				t.Fatalf("Fewest(%v, %d) = %v: for the bell %d one less is enough", u, rest, hammers, bell)
			}
		}
	}
}
