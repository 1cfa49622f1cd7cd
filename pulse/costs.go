package pulse

import (
	"maps"
	"slices"

	"turret/api"
)

// costs are the dials that there can be, each with the fewest faults that lead to it.
type costs map[dial]int

// explain returns the dials that can have shown what was seen, with at most so many faults.
func (l line) explain(shown, from int, seen []api.PulseSeen, most int) costs {
	c, t := costs{l.start(shown, from): 0}, from
	for _, s := range seen {
		for t < s.At {
			t++
			c = l.pass(c, t, most)
		}
		otherwise := func(d dial, _ int) bool { return d.shown != s.Shown }
		maps.DeleteFunc(c, otherwise)
	}
	return c
}

// pass returns the dials after the impulse of a minute, with at most so many faults.
func (l line) pass(before costs, t, most int) costs {
	after := make(costs, len(before))
	for d, faults := range before {
		for kind := range l.kinds(t) {
			with := faults
			if kind != sound {
				with++
			}
			if with <= most {
				after.add(l.impulse(d, t, kind), with)
			}
		}
	}
	return after
}

// kinds returns how many kinds the impulse of a minute can be of, sound first.
func (l line) kinds(t int) api.PulseKind {
	if l.long(t) {
		return 1
	}
	return api.PulseKind(len(moves))
}

// add adds a dial that there can be after some faults.
func (c costs) add(d dial, faults int) {
	if before, found := c[d]; !found || faults < before {
		c[d] = faults
	}
}

// least returns the fewest faults that lead to a dial, and false if there is none.
func (c costs) least() (faults int, found bool) {
	if len(c) == 0 {
		return 0, false
	}
	return slices.Min(slices.Collect(maps.Values(c))), true
}
