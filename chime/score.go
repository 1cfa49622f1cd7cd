package chime

import (
	"slices"

	"turret/api"
)

// counts is how many hammers each bell has. They are numbered bell by bell.
type counts [api.MaxChimeBells]int

// first returns the number of the first hammer of a bell.
func (c counts) first(bell int) int { return sum(c[:bell]...) }

// hammers returns all hammers, each with this rest.
func (c counts) hammers(rest int) []api.ChimeHammer {
	var list []api.ChimeHammer
	for bell, many := range c {
		list = append(list, slices.Repeat([]api.ChimeHammer{{Bell: bell, Rest: rest}}, many)...)
	}
	return list
}

// raise makes room for the hammers of another tune.
func (c *counts) raise(other counts) {
	for bell, many := range other {
		c[bell] = max(c[bell], many)
	}
}

// score is a valid tune whose hammers need some rest.
type score struct {
	api.ChimeTune
	rest int
}

// share returns the fewest hammers that the tune needs, and for each blow the number of its hammer among those of its bell: the smallest list of them.
func (s score) share() (many counts, own []int) {
	own = make([]int, len(s.Blows))
	for bell, blows := range byBell(s.Blows) {
		hammers := s.fewest(blows)
		many[bell] = slices.Max(hammers) + 1
		for i, blow := range blows {
			own[blow] = hammers[i]
		}
	}
	return many, own
}

// byBell returns the numbers of the blows of each bell.
func byBell(blows []api.ChimeBlow) map[int][]int {
	numbers := map[int][]int{}
	for i, b := range blows {
		numbers[b.Bell] = append(numbers[b.Bell], i)
	}
	return numbers
}

// fewest returns the smallest list of hammers for the blows of a bell, of those with as few hammers as possible.
func (s score) fewest(blows []int) []int {
	// It ends: with a hammer for each blow none comes too soon.
	for many := 1; ; many++ {
		if hammers, enough := s.extend(nil, blows, many); enough {
			return hammers
		}
	}
}

// extend returns the smallest list of hammers for the blows of a bell that begins with these ones, if so many hammers are enough.
func (s score) extend(hammers, blows []int, many int) (longer []int, enough bool) {
	if len(hammers) == len(blows) {
		return hammers, true
	}
	next := blows[len(hammers)]
	tooSoon := func(hammer int) bool {
		for i, other := range hammers {
			if other == hammer && s.near(blows[i], next) {
				return true
			}
		}
		return false
	}
	for hammer := range many {
		if tooSoon(hammer) {
			continue
		}
		if longer, enough := s.extend(append(hammers, hammer), blows, many); enough {
			return longer, true
		}
	}
	return nil, false
}

// near reports whether two blows are too near for the same hammer.
func (s score) near(a, b int) bool { return apart(s.Blows[a].At, s.Blows[b].At, s.Steps) < s.rest }

// pinned returns works that play valid tunes of as many steps, however large they are.
func pinned(l []api.ChimeTune, rest int) api.ChimeWorks {
	var most counts
	var owns [][]int
	for _, t := range l {
		many, own := score{t, rest}.share()
		most.raise(many)
		owns = append(owns, own)
	}
	c := api.ChimeWorks{Steps: l[0].Steps, Sections: 1, Runs: []int{1}, Tunes: len(l), Hammers: most.hammers(rest)}
	for tune, t := range l {
		for i, b := range t.Blows {
			hammer := most.first(b.Bell) + owns[tune][i]
			c.Pins = append(c.Pins, api.ChimePin{Track: hammer*c.Tunes + tune, At: b.At})
		}
	}
	return c
}
