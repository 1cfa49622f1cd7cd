package strike_test

import (
	"iter"
	"math"
	"math/rand/v2"
	"slices"
	"testing"

	"turret/api"
	"turret/strike"
)

func span(low, high int) api.Span { return api.Span{Low: low, High: high} }

func spans(s ...api.Span) []api.Span { return s }

func numbers(n ...int) []int { return n }

// wild are numbers that nothing allows.
func wild() []int {
	return numbers(-1, -2, -100, math.MinInt, math.MinInt+1, math.MaxInt-1, math.MaxInt)
}

func seeded(n uint64) *rand.Rand { return rand.New(rand.NewPCG(n, 5)) }

// hourly and halved have a count wheel, without and with half hours.
func hourly(quiet ...api.Span) api.StrikeRules { return api.StrikeRules{Quiet: quiet} }

func halved(quiet ...api.Span) api.StrikeRules { return api.StrikeRules{Halves: true, Quiet: quiet} }

// racked returns rules with a rack instead of a count wheel.
func racked(r api.StrikeRules) api.StrikeRules {
	r.Rack = true
	return r
}

// night are the rules of the chapter's examples.
func night() api.StrikeRules { return halved(span(22, 38)) }

// kinds are all rules that have some silence.
func kinds(quiet ...api.Span) []api.StrikeRules {
	list := []api.StrikeRules{hourly(quiet...), halved(quiet...)}
	return append(list, racked(list[0]), racked(list[1]))
}

func heard(h ...api.StrikeHeard) []api.StrikeHeard { return h }

func at(slot, blows int) api.StrikeHeard { return api.StrikeHeard{Slot: slot, Blows: blows} }

func plan(s ...api.StrikeStep) []api.StrikeStep { return s }

func off(n int) api.StrikeStep { return api.StrikeStep{Off: n} }

func held() api.StrikeStep { return api.StrikeStep{Hold: true} }

func offHeld(n int) api.StrikeStep { return api.StrikeStep{Off: n, Hold: true} }

// nothing returns a plan that does nothing at so many slots.
func nothing(n int) []api.StrikeStep { return make([]api.StrikeStep, n) }

// holding returns a plan that holds the strike at so many slots.
func holding(n int) []api.StrikeStep { return slices.Repeat(plan(held()), n) }

// blowsByPlace are the blows of all places.
func blowsByPlace(r api.StrikeRules) []int {
	if r.Halves {
		return numbers(12, 1, 1, 1, 2, 1, 3, 1, 4, 1, 5, 1, 6, 1, 7, 1, 8, 1, 9, 1, 10, 1, 11, 1)
	}
	return numbers(12, 1, 2, 3, 4, 5, 6, 7, 8, 9, 10, 11)
}

// placesOf returns the N of the document.
func placesOf(r api.StrikeRules) int { return len(blowsByPlace(r)) }

func allPlaces(r api.StrikeRules) []int {
	var list []int
	for place := range placesOf(r) {
		list = append(list, place)
	}
	return list
}

func rightOf(r api.StrikeRules, slot int) int { return slot % placesOf(r) }

func isSilent(r api.StrikeRules, slot int) bool {
	for _, s := range r.Quiet {
		for n := s.Low; n <= s.High; n++ {
			if n == slot%(2*placesOf(r)) {
				return true
			}
		}
	}
	return false
}

// dueAt returns the right blows at a slot.
func dueAt(r api.StrikeRules, slot int) int {
	if isSilent(r, slot) {
		return 0
	}
	return blowsByPlace(r)[rightOf(r, slot)]
}

// byHand returns where a strike is after some let-offs by hand, and how many blows there were.
func byHand(r api.StrikeRules, place, many int) (after, blows int) {
	for range many {
		blows += blowsByPlace(r)[place]
		if !r.Rack {
			place = (place + 1) % placesOf(r)
		}
	}
	return place, blows
}

// bySlot returns where a strike is after a slot came, and how many blows there were.
func bySlot(r api.StrikeRules, slot, place int, miss bool) (after, blows int) {
	if !miss && !isSilent(r, slot) {
		blows = blowsByPlace(r)[place]
	}
	switch {
	case r.Rack:
		place = rightOf(r, slot+1)
	case !miss:
		place = (place + 1) % placesOf(r)
	}
	return place, blows
}

// history is a truth: where a strike was when a slot was next, and whether it missed at each slot from this one on.
type history struct {
	slot, place int
	missed      []bool
}

// run returns how many blows there were at each slot, where the strike is then, and how often it missed.
func (h history) run(r api.StrikeRules) (blows []int, end, missed int) {
	end = h.place
	for i, miss := range h.missed {
		after, n := bySlot(r, h.slot+i, end, miss)
		blows = append(blows, n)
		end = after
		if miss {
			missed++
		}
	}
	return blows, end, missed
}

// histories yields all truths of so many slots.
func histories(r api.StrikeRules, slot, many int) iter.Seq[history] {
	return func(yield func(history) bool) {
		for _, place := range allPlaces(r) {
			if r.Rack && place != rightOf(r, slot) {
				continue
			}
			for which := range 1 << many {
				missed := make([]bool, many)
				for i := range missed {
					missed[i] = which>>i&1 == 1
				}
				if !yield(history{slot, place, missed}) {
					return
				}
			}
		}
	}
}

// fitting reports whether what was heard is just what was struck; blows are those of the slots from the first one heard on.
func fitting(blows []int, l []api.StrikeHeard) bool {
	for _, h := range l {
		if blows[h.Slot-l[0].Slot] != h.Blows {
			return false
		}
	}
	return true
}

func slotsOf(l []api.StrikeHeard) int { return l[len(l)-1].Slot - l[0].Slot + 1 }

// found is what is known of how often a strike missed, and where it can be.
type found struct {
	fewest int
	places []int
}

// add adds a truth in which the strike missed so often and is at a place.
func (f *found) add(missed, place int) {
	if len(f.places) == 0 || missed < f.fewest {
		f.fewest, f.places = missed, nil
	}
	if missed == f.fewest && !slices.Contains(f.places, place) {
		f.places = append(f.places, place)
		slices.Sort(f.places)
	}
}

// foundOfAll looks at all truths, one by one.
func foundOfAll(r api.StrikeRules, l []api.StrikeHeard) found {
	var f found
	for h := range histories(r, l[0].Slot, slotsOf(l)) {
		if blows, end, missed := h.run(r); fitting(blows, l) {
			f.add(missed, end)
		}
	}
	return f
}

// foundByCounts looks, for each place at the first slot, at how often the strike struck from one slot that was heard to the next one. It is for long spans, with a count wheel.
func foundByCounts(r api.StrikeRules, l []api.StrikeHeard) found {
	var f found
	n := placesOf(r)
	for first := range n {
		missed := map[int]int{0: 0} // by how often it struck, as long as what was heard fits
		slot := l[0].Slot
		for _, h := range l {
			missed = spread(missed, h.Slot-slot)
			after := map[int]int{}
			for struck, m := range missed {
				place := (first + struck) % n
				if next, blows := bySlot(r, h.Slot, place, false); blows == h.Blows {
					keep(after, struck+(next-place+n)%n, m)
				}
				if h.Blows == 0 {
					keep(after, struck, m+1)
				}
			}
			missed, slot = after, h.Slot+1
		}
		for struck, m := range missed {
			f.add(m, (first+struck)%n)
		}
	}
	return f
}

// spread returns the misses after so many slots at which nobody listened.
func spread(missed map[int]int, slots int) map[int]int {
	after := map[int]int{}
	for struck, m := range missed {
		for more := range slots + 1 {
			keep(after, struck+more, m+slots-more)
		}
	}
	return after
}

func keep(missed map[int]int, struck, m int) {
	if before, ok := missed[struck]; !ok || m < before {
		missed[struck] = m
	}
}

// randomQuiet returns silence, often none.
func randomQuiet(x *rand.Rand, slots int) []api.Span {
	var list []api.Span
	for low := x.IntN(slots); low < slots && len(list) < api.MaxStrikeQuiet && x.IntN(4) > 0; low++ {
		s := span(low, min(slots-1, low+x.IntN(1+x.IntN(slots/2))))
		list = append(list, s)
		low = s.High + x.IntN(3)
	}
	return list
}

// randomRules returns rules of a count wheel.
func randomRules(x *rand.Rand) api.StrikeRules {
	if x.IntN(2) == 0 {
		return hourly(randomQuiet(x, 24)...)
	}
	return halved(randomQuiet(x, 48)...)
}

// randomHistory returns a truth of so many slots in which one of some slots is missed.
func randomHistory(x *rand.Rand, r api.StrikeRules, slot, many, one int) history {
	h := history{slot: slot, place: x.IntN(placesOf(r))}
	if r.Rack {
		h.place = rightOf(r, slot)
	}
	for range many {
		h.missed = append(h.missed, x.IntN(one) == 0)
	}
	return h
}

// hear returns what is heard of a truth at its first and last slots, and at one of some slots between them, but not more than is allowed.
func hear(x *rand.Rand, r api.StrikeRules, h history, one int) []api.StrikeHeard {
	blows, _, _ := h.run(r)
	last := len(blows) - 1
	l := heard(at(h.slot, blows[0]))
	for i := 1; i < last && len(l) < api.MaxStrikeHeard-1; i++ {
		if x.IntN(one) == 0 {
			l = append(l, at(h.slot+i, blows[i]))
		}
	}
	if last > 0 {
		l = append(l, at(h.slot+last, blows[last]))
	}
	return l
}

// played is what a plan did.
type played struct {
	plan             []api.StrikeStep
	end, hand, holds int
}

// then returns what a plan did with one step more, at a slot.
func (p played) then(r api.StrikeRules, slot int, s api.StrikeStep) played {
	place, blows := byHand(r, p.end, s.Off)
	p.end, _ = bySlot(r, slot, place, s.Hold)
	p.hand += blows
	if s.Hold {
		p.holds++
	}
	p.plan = slices.Concat(p.plan, plan(s))
	return p
}

// playedOf plays a whole plan.
func playedOf(r api.StrikeRules, slot, place int, l []api.StrikeStep) played {
	p := played{end: place}
	for i, s := range l {
		p = p.then(r, slot+i, s)
	}
	return p
}

// greater reports whether a plan is greater than another one with as many steps.
func greater(a, b []api.StrikeStep) bool {
	for i, s := range a {
		switch {
		case s.Off != b[i].Off:
			return s.Off > b[i].Off
		case s.Hold != b[i].Hold:
			return s.Hold
		}
	}
	return false
}

// better reports whether a plan is preferred to another one with as many steps.
func (p played) better(q played) bool {
	switch {
	case p.hand != q.hand:
		return p.hand < q.hand
	case p.holds != q.holds:
		return p.holds < q.holds
	}
	return greater(p.plan, q.plan)
}

// stepsAt are all steps that can be done at a slot, with at most so many let-offs.
func stepsAt(r api.StrikeRules, slot, most int) []api.StrikeStep {
	if isSilent(r, slot) {
		most = 0
	}
	var list []api.StrikeStep
	for n := range most + 1 {
		list = append(list, off(n), offHeld(n))
	}
	return list
}

// plans yields all plans that can be played, with at most so many let-offs in each step.
func plans(r api.StrikeRules, slot, place, until, most int) iter.Seq[played] {
	return func(yield func(played) bool) { morePlans(r, slot, until, most, played{end: place}, yield) }
}

func morePlans(r api.StrikeRules, slot, until, most int, p played, yield func(played) bool) bool {
	if slot == until {
		return yield(p)
	}
	for _, s := range stepsAt(r, slot, most) {
		if !morePlans(r, slot+1, until, most, p.then(r, slot, s), yield) {
			return false
		}
	}
	return true
}

// bestOfAll looks at all plans, one by one.
func bestOfAll(r api.StrikeRules, slot, place, until, most int) (best played, ok bool) {
	for p := range plans(r, slot, place, until, most) {
		if p.end == rightOf(r, until) && (!ok || p.better(best)) {
			best, ok = p, true
		}
	}
	return best, ok
}

// bestOfLong goes on, slot by slot, with the best plan for each place.
func bestOfLong(r api.StrikeRules, slot, place, until int) (played, bool) {
	best := map[int]played{place: {end: place}}
	for ; slot < until; slot++ {
		after := map[int]played{}
		for _, p := range best {
			for _, s := range stepsAt(r, slot, api.MaxStrikeOff) {
				q := p.then(r, slot, s)
				if before, ok := after[q.end]; !ok || q.better(before) {
					after[q.end] = q
				}
			}
		}
		best = after
	}
	p, ok := best[rightOf(r, until)]
	return p, ok
}

// nineSpans are one more than is allowed.
func nineSpans() []api.Span {
	var list []api.Span
	for n := range 9 {
		list = append(list, span(2*n, 2*n))
	}
	return list
}

// longRules have too many spans, and nothing else or more that is wrong.
func longRules() []api.StrikeRules {
	list := append(kinds(nineSpans()...), kinds(slices.Repeat(spans(span(3, 2)), 9)...)...)
	return append(list, kinds(slices.Repeat(spans(span(5, 5)), 1000)...)...)
}

// badSpans are not valid in a day of so many slots.
func badSpans(slots int) []api.Span {
	list := spans(span(3, 2), span(slots-1, 0), span(0, slots), span(slots, slots), span(-1, 0), span(-1, slots), span(math.MaxInt, math.MinInt), span(math.MinInt, math.MaxInt))
	for _, n := range wild() {
		list = append(list, span(n, n), span(min(n, 5), max(n, 5)))
	}
	return list
}

// badRules have no more spans than are allowed, but are not valid.
func badRules() []api.StrikeRules {
	var list []api.StrikeRules
	for _, r := range kinds() {
		slots := 2 * placesOf(r)
		for _, s := range badSpans(slots) {
			for _, quiet := range [][]api.Span{{s}, {span(0, 0), s}, {span(0, 0), s, span(slots-1, slots-1)}} {
				r.Quiet = quiet
				list = append(list, r)
			}
		}
	}
	for _, quiet := range [][]api.Span{
		{span(3, 5), span(5, 6)}, {span(3, 5), span(4, 4)}, {span(3, 5), span(3, 5)}, {span(3, 5), span(2, 7)}, {span(3, 5), span(1, 2)}, {span(3, 5), span(0, 3)},
		{span(3, 3), span(3, 3)}, {span(1, 1), span(3, 5), span(5, 9), span(11, 12)}, append(nineSpans()[:7], span(12, 14)), append(nineSpans()[:7], span(24, 23)),
	} {
		list = append(list, kinds(quiet...)...)
	}
	// The slots of a day without half hours are fewer.
	return append(list, hourly(span(22, 38)), hourly(span(0, 24)), hourly(span(24, 24)), racked(hourly(span(0, 47))))
}

func expectBlows(t *testing.T, r api.StrikeRules, slot, want int) {
	t.Helper()
	if n, e := strike.Blows(r, slot); n != want || e != api.OK {
		t.Errorf("Blows(%v, %d) = %d, %v; want %d", r, slot, n, e, want)
	}
}

func expectBlowsError(t *testing.T, r api.StrikeRules, slot int, want api.Errno) {
	t.Helper()
	if n, e := strike.Blows(r, slot); n != 0 || e != want {
		t.Errorf("Blows(%v, %d) = %d, %v; want the error %v", r, slot, n, e, want)
	}
}

func expectDay(t *testing.T, r api.StrikeRules, want int) {
	t.Helper()
	if n, e := strike.Day(r); n != want || e != api.OK {
		t.Errorf("Day(%v) = %d, %v; want %d", r, n, e, want)
	}
}

func expectMisses(t *testing.T, r api.StrikeRules, l []api.StrikeHeard, fewest int, places ...int) {
	t.Helper()
	if n, p, e := strike.Misses(r, l); n != fewest || !slices.Equal(p, places) || e != api.OK {
		t.Errorf("Misses(%v, %v) = %d, %v, %v; want %d, %v", r, l, n, p, e, fewest, places)
	}
}

// expectFound fails unless Misses returns what was found, or ErrState if there is no truth.
func expectFound(t *testing.T, r api.StrikeRules, l []api.StrikeHeard, f found) {
	t.Helper()
	if len(f.places) == 0 {
		expectMissesError(t, r, l, api.ErrState)
	} else {
		expectMisses(t, r, l, f.fewest, f.places...)
	}
}

func expectMissesError(t *testing.T, r api.StrikeRules, l []api.StrikeHeard, want api.Errno) {
	t.Helper()
	if n, p, e := strike.Misses(r, l); n != 0 || len(p) > 0 || e != want {
		t.Errorf("Misses(%v, %v) = %d, %v, %v; want the error %v", r, l, n, p, e, want)
	}
}

func expectPlay(t *testing.T, r api.StrikeRules, slot, place int, l []api.StrikeStep, end, hand int) {
	t.Helper()
	if p, n, e := strike.Play(r, slot, place, l); p != end || n != hand || e != api.OK {
		t.Errorf("Play(%v, %d, %d, %v) = %d, %d, %v; want %d, %d", r, slot, place, l, p, n, e, end, hand)
	}
}

func expectPlayError(t *testing.T, r api.StrikeRules, slot, place int, l []api.StrikeStep, want api.Errno) {
	t.Helper()
	if p, n, e := strike.Play(r, slot, place, l); p != 0 || n != 0 || e != want {
		t.Errorf("Play(%v, %d, %d, %v) = %d, %d, %v; want the error %v", r, slot, place, l, p, n, e, want)
	}
}

func expectBring(t *testing.T, r api.StrikeRules, slot, place, until int, want []api.StrikeStep, hand int) {
	t.Helper()
	if l, n, e := strike.Bring(r, slot, place, until); !slices.Equal(l, want) || n != hand || e != api.OK {
		t.Errorf("Bring(%v, %d, %d, %d) = %v, %d, %v; want %v, %d", r, slot, place, until, l, n, e, want, hand)
	}
}

// expectBest fails unless Bring returns the best plan, or ErrNone if there is none.
func expectBest(t *testing.T, r api.StrikeRules, slot, place, until int, best played, ok bool) {
	t.Helper()
	if ok {
		expectBring(t, r, slot, place, until, best.plan, best.hand)
	} else {
		expectBringError(t, r, slot, place, until, api.ErrNone)
	}
}

func expectBringError(t *testing.T, r api.StrikeRules, slot, place, until int, want api.Errno) {
	t.Helper()
	if l, n, e := strike.Bring(r, slot, place, until); len(l) > 0 || n != 0 || e != want {
		t.Errorf("Bring(%v, %d, %d, %d) = %v, %d, %v; want the error %v", r, slot, place, until, l, n, e, want)
	}
}
