package chime

import (
	"cmp"
	"slices"

	"turret/api"
)

// barrel is works that are valid.
type barrel struct{ api.ChimeWorks }

// newBarrel returns a barrel, or the error of its works.
func newBarrel(c api.ChimeWorks) (barrel, api.Errno) {
	if e := Check(c); e != api.OK {
		return barrel{}, e
	}
	return barrel{c}, api.OK
}

// steps returns how many steps of the barrel so many sections are.
func (b barrel) steps(sections int) int { return b.Steps / b.Sections * sections }

// hammer returns what a track lifts.
func (b barrel) hammer(track int) api.ChimeHammer { return b.Hammers[track/b.Tunes] }

// clash reports whether two pins are on the same track, and too near for its hammer.
func (b barrel) clash(p, q api.ChimePin) bool {
	return p.Track == q.Track && apart(p.At, q.At, b.Steps) < b.hammer(p.Track).Rest
}

// behind returns how many sections after this one a run can begin in step.
func (b barrel) behind(run, section int) int {
	// From one hour to the next the run begins as many sections further on as an hour has. So it comes to all sections that differ from the first one by a multiple of the greatest divisor of this and of a turn, and to no others.
	every := greatestDivisor(sum(b.Runs...), b.Sections)
	return modulo(sum(b.Runs[:run]...)-section, every)
}

// run is some sections of a barrel that are played from a section on, at most a turn.
type run struct {
	barrel
	tune, section, sections int
}

// newRun returns a run that begins at a section, or the errors of a run.
func newRun(c api.ChimeWorks, tune, number, section int) (run, api.Errno) {
	b, e := newBarrel(c)
	switch {
	case e != api.OK:
		return run{}, e
	case !within(0, b.Tunes-1, tune), !within(0, len(b.Runs)-1, number), !within(0, b.Sections-1, section):
		return run{}, api.ErrNone
	}
	return run{b, tune, section, b.Runs[number]}, api.OK
}

// since returns how many steps after the beginning of the run a step of the barrel comes.
func (r run) since(step int) int { return modulo(step-r.steps(r.section), r.Steps) }

// skips reports whether a pin does not strike in the run.
func (r run) skips(p api.ChimePin) bool {
	return p.Track%r.Tunes != r.tune || r.since(p.At) >= r.steps(r.sections)
}

// compare tells which of two pins strikes first.
func (r run) compare(p, q api.ChimePin) int {
	return cmp.Or(cmp.Compare(r.since(p.At), r.since(q.At)), cmp.Compare(p.Track, q.Track))
}

// blows returns what is played, in order.
func (r run) blows() []api.ChimeBlow {
	pins := slices.DeleteFunc(slices.Clone(r.Pins), r.skips)
	slices.SortFunc(pins, r.compare)
	var blows []api.ChimeBlow
	for _, p := range pins {
		blows = append(blows, api.ChimeBlow{At: r.since(p.At), Bell: r.hammer(p.Track).Bell})
	}
	return blows
}

// strikes reports whether a blow is one on this bell.
func strikes(b api.ChimeBlow, bell int) bool { return b.Bell == bell }
