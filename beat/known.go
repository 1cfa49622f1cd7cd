package beat

import (
	"iter"
	"slices"

	"turret/api"
)

// The numbers of the unknowns, in the order in which truths are compared. The numbers of the rods, which come before, are those of how they grow.
const (
	air = api.MaxBeatRods + iota
	drive
	heat
	press
	arc
	force
	unknowns // how many there are, with as many rods as a clock can have
)

// known is what is known of a valid clock: between which integers each unknown lies.
type known struct {
	api.BeatClock
	spans [unknowns]span
}

// newKnown returns what is known of a clock within bounds, or the errors of both.
func newKnown(c api.BeatClock, b api.BeatBounds) (known, api.Errno) {
	if e := Check(c); e != api.OK {
		return known{}, e
	}
	if !validBounds(b) {
		return known{}, api.ErrArg
	}
	k := known{BeatClock: c, spans: [unknowns]span{
		air: {c.Air}, drive: {c.Drive}, heat: {b.Heat}, press: {b.Press}, arc: {b.Arc}, force: {b.Force},
	}}
	for i, r := range c.Rods {
		k.spans[i] = span{r.Grow}
	}
	return k, api.OK
}

// all yields the numbers of the clock's unknowns, in their order, each with its span.
func (k known) all() iter.Seq2[int, span] {
	return func(yield func(int, span) bool) {
		for i, s := range k.spans {
			noRod := within(len(k.Rods), api.MaxBeatRods-1, i)
			if !noRod && !yield(i, s) {
				return
			}
		}
	}
}

// allows reports whether a truth has one Grow for each rod, and all of it lies in the spans.
func (k known) allows(t api.BeatTruth) bool {
	if len(t.Grow) != len(k.Rods) {
		return false
	}
	v := values(t)
	for i, s := range k.all() {
		if !within(s.Low, s.High, v[i]) {
			return false
		}
	}
	return true
}

// narrowed returns what is known if a truth is.
func (k known) narrowed(t api.BeatTruth) known {
	for i, n := range values(t) {
		k.spans[i] = around(n)
	}
	return k
}

// values returns the integers of a truth by the numbers of the unknowns.
func values(t api.BeatTruth) [unknowns]int {
	v := [unknowns]int{air: t.Air, drive: t.Drive, heat: t.Heat, press: t.Press, arc: t.Arc, force: t.Force}
	copy(v[:air], t.Grow)
	return v
}

// smallest returns the smallest truth with a rate, which is the least or the greatest one; reaches reports whether this is still among some rates.
//
// Over the span of one unknown, the others chosen as is best for the rate, the least rate is concave, and the greatest one is convex, or, with the arc, falls: so a rate that is not reached with the Low of the span is reached with its High alone.
func (k known) smallest(reaches func(rates span) bool) api.BeatTruth {
	for i, s := range k.all() {
		k.spans[i] = around(s.Low)
		if !reaches(k.rate()) {
			k.spans[i] = around(s.High)
		}
	}
	return k.least()
}

// least returns the truth that is the least in all spans.
func (k known) least() api.BeatTruth {
	var v [unknowns]int
	for i, s := range k.all() {
		v[i] = s.Low
	}
	return api.BeatTruth{
		Grow: slices.Clone(v[:len(k.Rods)]),
		Air:  v[air], Drive: v[drive], Heat: v[heat], Press: v[press], Arc: v[arc], Force: v[force],
	}
}
