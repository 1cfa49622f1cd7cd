package round

import (
	"cmp"
	"slices"

	"turret/api"
)

// office sends the winders of valid rules out. It keeps the rounds that it has looked for.
type office struct {
	api.RoundRules
	answers map[[2]int]answer // by the number of a winder, and a set of towers
}

// answer is the quickest round of a winder to some towers, if there is one.
type answer struct {
	tour
	some bool
}

func newOffice(r api.RoundRules) office { return office{r, map[[2]int]answer{}} }

// quickest returns the quickest round of a winder to all towers of a set; false if there is none.
func (o office) quickest(winder int, towers set) (t tour, some bool) {
	key := [2]int{winder, int(towers)}
	a, known := o.answers[key]
	if !known {
		a.tour, a.some = newWalker(o.RoundRules, winder).finish(towers)
		o.answers[key] = a
	}
	return a.tour, a.some
}

// plan is rounds by ascending winder, and how many minutes they take together.
type plan struct {
	trips   []api.RoundTrip
	minutes int
}

// share returns the best plan in which the winders from a number on wind all towers of a set; false if there is none.
func (o office) share(winder int, towers set) (best plan, found bool) {
	if winder == len(o.Winders) {
		return plan{}, towers == 0
	}
	for part := range towers.parts {
		p, ok := o.send(winder, part, towers.without(part))
		if ok && (!found || p.compare(best) < 0) {
			best, found = p, true
		}
	}
	return best, found
}

// send returns the best plan in which a winder winds a set of towers, or stays at home if it is empty, and those after this winder wind all others; false if there is none.
func (o office) send(winder int, towers, others set) (plan, bool) {
	p, ok := o.share(winder+1, others)
	if !ok || towers == 0 {
		return p, ok
	}
	t, ok := o.quickest(winder, towers)
	if !ok {
		return plan{}, false
	}
	trip := api.RoundTrip{Winder: winder, Steps: t.steps}
	return plan{slices.Concat([]api.RoundTrip{trip}, p.trips), t.minutes + p.minutes}, true
}

// compare returns a number below 0 if a plan is better than another one, and above 0 if it is worse.
func (p plan) compare(other plan) int {
	winders := func(a, b api.RoundTrip) int { return cmp.Compare(a.Winder, b.Winder) }
	steps := func(a, b api.RoundTrip) int { return slices.Compare(a.Steps, b.Steps) }
	return cmp.Or(
		cmp.Compare(len(p.trips), len(other.trips)),
		cmp.Compare(p.minutes, other.minutes),
		slices.CompareFunc(p.trips, other.trips, winders),
		slices.CompareFunc(p.trips, other.trips, steps),
	)
}
