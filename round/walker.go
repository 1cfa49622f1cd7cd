package round

import (
	"iter"
	"slices"

	"turret/api"
)

// walker is a winder of valid rules on a round, and how it went up to now.
type walker struct {
	api.RoundRules
	api.RoundWinder
	place   int // as in Ways: the number of towers stands for the works
	minutes int
	work    int // the minutes since the last rest
	used    int // how much oil
	wound   set
}

// newWalker returns a winder at the works.
func newWalker(r api.RoundRules, winder int) walker {
	return walker{RoundRules: r, RoundWinder: r.Winders[winder], place: len(r.Towers)}
}

// after returns the walker after a step, or the error of the step.
func (w walker) after(step int) (walker, api.Errno) {
	switch {
	case step == api.RoundRest:
		w.minutes += w.Rest
		w.work = 0
		return w, w.law()
	case !areTowers(w.RoundRules, step):
		return w, api.ErrArg
	}
	return w.wind(step)
}

// wind returns the walker after a step to a tower, or its error.
func (w walker) wind(tower int) (walker, api.Errno) {
	t := w.Towers[tower]
	w.used += t.Oil
	switch {
	case w.wound.has(tower):
		return w, api.ErrTwice
	case t.Keys&^w.Keys != 0:
		return w, api.ErrKeys
	case w.used > w.Oil:
		return w, api.ErrOil
	}
	w.wound |= setOf(tower)
	return w.walk(tower, t.Climb+t.Wind)
}

// home returns the walker after the way home, or its error.
func (w walker) home() (walker, api.Errno) { return w.walk(len(w.Towers), 0) }

// walk returns the walker after the way to a place and some minutes of work there, or the error of both.
func (w walker) walk(place, there int) (walker, api.Errno) {
	minutes := w.Ways[w.place][place] + there
	w.place = place
	w.work += minutes
	w.minutes += minutes
	return w, w.law()
}

// law returns the error of the minutes up to now.
func (w walker) law() api.Errno {
	switch {
	case w.work > w.Run:
		return api.ErrRun
	case w.minutes > w.Shift:
		return api.ErrShift
	}
	return api.OK
}

// tour is the steps of a round that keeps the law, and how many minutes all of it takes.
type tour struct {
	steps   []int
	minutes int
}

// finish returns the steps with which a round goes on so that it is the quickest one that winds all towers of a set, the smallest list if there are several; false if no such round keeps the law.
func (w walker) finish(towers set) (best tour, found bool) {
	left := towers.without(w.wound)
	if end, e := w.home(); left == 0 && e == api.OK {
		return tour{minutes: end.minutes}, true
	}
	// The steps ascend, so the first of several lists is the smallest one.
	for step := range w.steps(left) {
		next, e := w.after(step)
		if e != api.OK {
			continue
		}
		if t, ok := next.finish(towers); ok && (!found || t.minutes < best.minutes) {
			best, found = tour{slices.Concat([]int{step}, t.steps), t.minutes}, true
		}
	}
	return best, found
}

// steps yields, in ascending order, the steps that can come next in the quickest round to some towers that are left.
func (w walker) steps(left set) iter.Seq[int] {
	return func(yield func(int) bool) {
		// Without work before it a rest only takes time.
		if w.work > 0 && !yield(api.RoundRest) {
			return
		}
		for tower := range w.Towers {
			if left.has(tower) && !yield(tower) {
				return
			}
		}
	}
}
