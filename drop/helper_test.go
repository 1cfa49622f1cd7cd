package drop_test

import (
	"iter"
	"math"
	"math/rand/v2"
	"slices"
	"testing"

	"turret/api"
	"turret/drop"
)

func span(low, high int) api.Span { return api.Span{Low: low, High: high} }

func spans(s ...api.Span) []api.Span { return s }

func numbers(n ...int) []int { return n }

// each returns a span for each hour of a day, which is the same one.
func each(s api.Span) []api.Span { return slices.Repeat(spans(s), 24) }

// with returns spans of which one is another one.
func with(l []api.Span, at int, s api.Span) []api.Span {
	l = slices.Clone(l)
	l[at] = s
	return l
}

func clock(line int, hours []api.Span) api.DropClock { return api.DropClock{Line: line, Hours: hours} }

// even returns a clock that uses the same in each hour.
func even(line, used int) api.DropClock { return clock(line, each(span(used, used))) }

func visit(at, wind api.Span) api.DropVisit { return api.DropVisit{At: at, Wind: wind} }

func visits(v ...api.DropVisit) []api.DropVisit { return v }

func repeated(v api.DropVisit, n int) []api.DropVisit { return slices.Repeat(visits(v), n) }

// exampleClock is the clock of the chapter's examples.
func exampleClock() api.DropClock { return clock(100, with(each(span(2, 2)), 0, span(2, 3))) }

// exampleVisits are those of the examples 3 and 4.
func exampleVisits() []api.DropVisit { return visits(visit(span(3, 6), span(5, 5))) }

// exampleRound is the one of the example 5.
func exampleRound() []api.DropVisit { return visits(visit(span(0, 5), span(49, 60))) }

// wild are numbers that nothing allows.
func wild() []int { return numbers(-1, -100, 1000000, math.MinInt, math.MaxInt) }

// badClocks are clocks that are not valid.
func badClocks() []api.DropClock {
	list := []api.DropClock{{}, even(0, 2), even(3001, 2), clock(100, nil), clock(100, each(span(2, 2))[:23]), clock(100, append(each(span(2, 2)), span(2, 2)))}
	for _, n := range wild() {
		list = append(list, even(n, 2))
	}
	for _, s := range badSpans(3000) {
		for _, hour := range numbers(0, 11, 23) {
			list = append(list, clock(100, with(each(span(2, 2)), hour, s)))
		}
	}
	return list
}

// badSpans are spans that are not valid from 0 to high.
func badSpans(high int) []api.Span {
	list := spans(span(3, 2), span(-1, 2), span(-2, -1), span(0, high+1), span(high+1, high+1), span(math.MaxInt, math.MinInt))
	for _, n := range wild() {
		list = append(list, span(n, n), span(min(n, 0), max(n, 0)))
	}
	return list
}

// badVisits are lists of at most ten visits that are not valid.
func badVisits() [][]api.DropVisit {
	one, good := span(1, 1), visit(span(5, 8), span(1, 1))
	list := [][]api.DropVisit{
		{good, visit(span(4, 8), one)}, {good, visit(span(5, 7), one)}, {good, visit(span(4, 9), one)},
		{good, visit(span(6, 7), one)}, {good, visit(span(1, 2), one)}, {good, good, visit(span(6, 9), one), good},
	}
	for _, s := range badSpans(2000) {
		list = append(list, visits(visit(s, one)), visits(good, visit(s, one)))
	}
	for _, s := range badSpans(3000) {
		list = append(list, visits(visit(one, s)), visits(visit(span(0, 0), one), visit(one, s)), visits(visit(span(1, 0), s)))
	}
	return append(list, append(repeated(good, 9), visit(span(1, 2), one)))
}

// history is what was wound and used in one truth: the hours of the visits, what each wound, and what each hour used.
type history struct{ came, wound, used []int }

// play returns what is left in each hour, after its visits, until the clock stops, and the hour in which it does; as many hours as are used if it does not.
func play(c api.DropClock, start int, h history) (left []int, stop int) {
	now := start
	for hour, used := range h.used {
		now = h.afterVisits(c, now, hour)
		left = append(left, now)
		if used > now {
			return left, hour
		}
		now -= used
	}
	return append(left, h.afterVisits(c, now, len(h.used))), len(h.used)
}

func (h history) afterVisits(c api.DropClock, left, hour int) int {
	for i, at := range h.came {
		if at == hour {
			left = min(c.Line, left+h.wound[i])
		}
	}
	return left
}

// picks yields all lists with a number of each span. The lists share memory.
func picks(from []api.Span) iter.Seq[[]int] {
	return func(yield func([]int) bool) {
		list := make([]int, len(from))
		var pick func(i int) bool
		pick = func(i int) bool {
			if i == len(from) {
				return yield(list)
			}
			for n := from[i].Low; n <= from[i].High; n++ {
				list[i] = n
				if !pick(i + 1) {
					return false
				}
			}
			return true
		}
		pick(0)
	}
}

// schedules yields all hours in which visits can be made.
func schedules(l []api.DropVisit) iter.Seq[[]int] {
	var at []api.Span
	for _, v := range l {
		at = append(at, v.At)
	}
	return func(yield func([]int) bool) {
		for came := range picks(at) {
			if slices.IsSorted(came) && !yield(came) {
				return
			}
		}
	}
}

// histories yields all truths of so many hours, one by one.
func histories(c api.DropClock, l []api.DropVisit, until int) iter.Seq[history] {
	var wind, used []api.Span
	for _, v := range l {
		wind = append(wind, v.Wind)
	}
	for hour := range until {
		used = append(used, c.Hours[hour%24])
	}
	return func(yield func(history) bool) {
		for came := range schedules(l) {
			for wound := range picks(wind) {
				for u := range picks(used) {
					if !yield(history{came, wound, u}) {
						return
					}
				}
			}
		}
	}
}

// place is how many visits were made, and what is left.
type place struct{ made, left int }

// walk is all places of a clock that goes, integer by integer.
type walk struct {
	api.DropClock
	visits []api.DropVisit
	places map[place]bool
	some   bool // it has stopped in some truth
}

func newWalk(c api.DropClock, l []api.DropVisit, start int) *walk {
	return &walk{c, l, map[place]bool{{0, start}: true}, false}
}

func (w *walk) wind(hour int) {
	next := map[place]bool{}
	var from func(p place)
	from = func(p place) {
		if p.made == len(w.visits) {
			next[p] = true
			return
		}
		v := w.visits[p.made]
		if v.At.High > hour {
			next[p] = true
		}
		for n := v.Wind.Low; v.At.Low <= hour && n <= v.Wind.High; n++ {
			from(place{p.made + 1, min(w.Line, p.left+n)})
		}
	}
	for p := range w.places {
		from(p)
	}
	w.places = next
}

func (w *walk) use(hour int) {
	next := map[place]bool{}
	for p := range w.places {
		for n := w.Hours[hour%24].Low; n <= w.Hours[hour%24].High; n++ {
			if n > p.left {
				w.some = true
			} else {
				next[place{p.made, p.left - n}] = true
			}
		}
	}
	w.places = next
}

// left returns the numbers that can be left, in ascending order.
func (w *walk) left() []int {
	var list []int
	for p := range w.places {
		list = append(list, p.left)
	}
	slices.Sort(list)
	return slices.Compact(list)
}

func (w *walk) state() int {
	switch {
	case len(w.places) == 0:
		return 2
	case w.some:
		return 1
	}
	return 0
}

// stops returns the hours in which the clock can stop.
func (w *walk) stops(until int) api.Span {
	s := span(until, until)
	for hour := range until {
		w.wind(hour)
		w.use(hour)
		if w.some {
			s.Low = min(s.Low, hour)
		}
		if len(w.places) == 0 {
			s.High = hour
			break
		}
	}
	return s
}

// spansOf returns the spans of ascending numbers.
func spansOf(list []int) []api.Span {
	var out []api.Span
	for i, n := range list {
		if i > 0 && n == list[i-1]+1 {
			out[len(out)-1].High = n
		} else {
			out = append(out, span(n, n))
		}
	}
	return out
}

// harshest returns the clock that uses as much as can be, and the visits that wind as little.
func harshest(c api.DropClock, l []api.DropVisit) (api.DropClock, []api.DropVisit) {
	c.Hours, l = slices.Clone(c.Hours), slices.Clone(l)
	for i, s := range c.Hours {
		c.Hours[i] = span(s.High, s.High)
	}
	for i, v := range l {
		l[i].Wind = span(v.Wind.Low, v.Wind.Low)
	}
	return c, l
}

// setting is a clock with what it has at first, and its visits.
type setting struct {
	clock  api.DropClock
	start  int
	visits []api.DropVisit
}

// size is how great the numbers of a random setting are.
type size struct{ line, visits, hours, wind, used, wide int }

func seeded(n uint64) *rand.Rand { return rand.New(rand.NewPCG(n, 2)) }

func randomSpan(r *rand.Rand, high, wide int) api.Span {
	low := r.IntN(high + 1)
	return span(low, min(high, low+r.IntN(wide+1)))
}

func randomSetting(r *rand.Rand, s size) setting {
	line := 1 + r.IntN(s.line)
	var hours []api.Span
	for range 24 {
		hours = append(hours, randomSpan(r, s.used, s.wide))
	}
	var l []api.DropVisit
	for range r.IntN(s.visits + 1) {
		l = append(l, visit(randomSpan(r, s.hours, s.hours), randomSpan(r, s.wind, s.wide)))
	}
	return setting{clock(line, hours), r.IntN(line + 1), ordered(l)}
}

// ordered puts the ends of visits in order.
func ordered(l []api.DropVisit) []api.DropVisit {
	for i := range l {
		for j := range i {
			if l[j].At.Low > l[i].At.Low {
				l[j].At.Low, l[i].At.Low = l[i].At.Low, l[j].At.Low
			}
			if l[j].At.High > l[i].At.High {
				l[j].At.High, l[i].At.High = l[i].At.High, l[j].At.High
			}
		}
	}
	return l
}

// settings yields random settings.
func settings(seed uint64, n int, s size) iter.Seq[setting] {
	return func(yield func(setting) bool) {
		r := seeded(seed)
		for range n {
			if !yield(randomSetting(r, s)) {
				return
			}
		}
	}
}

// few has so few truths that all can be listed, and many so many that only their places can.
func few() size { return size{line: 8, visits: 3, hours: 4, wind: 5, used: 3, wide: 1} }

func many() size { return size{line: 40, visits: 5, hours: 60, wind: 25, used: 3, wide: 3} }

func expectLeft(t *testing.T, s setting, hour int, left []api.Span, state int) {
	t.Helper()
	got, n, e := drop.Left(s.clock, s.start, s.visits, hour)
	if e != api.OK || n != state || !slices.Equal(got, left) {
		t.Errorf("Left(%v, %d) = %v, %d, %v; want %v, %d", s, hour, got, n, e, left, state)
	}
}

func expectStops(t *testing.T, s setting, until int, want api.Span) {
	t.Helper()
	got, e := drop.Stops(s.clock, s.start, s.visits, until)
	if e != api.OK || got != want {
		t.Errorf("Stops(%v, %d) = %v, %v; want %v", s, until, got, e, want)
	}
}

func expectWorst(t *testing.T, s setting, until int, want []int) {
	t.Helper()
	got, e := drop.Worst(s.clock, s.start, s.visits, until)
	if e != api.OK || !slices.Equal(got, want) {
		t.Errorf("Worst(%v, %d) = %v, %v; want %v", s, until, got, e, want)
	}
}

func expectWorstError(t *testing.T, s setting, until int, e api.Errno) {
	t.Helper()
	if got, f := drop.Worst(s.clock, s.start, s.visits, until); f != e || len(got) != 0 {
		t.Errorf("Worst(%v, %d) = %v, %v; want the error %v", s, until, got, f, e)
	}
}

func expectGoes(t *testing.T, c api.DropClock, start, from int, want api.Span) {
	t.Helper()
	if got, e := drop.Goes(c, start, from); e != api.OK || got != want {
		t.Errorf("Goes(%v, %d, %d) = %v, %v; want %v", c, start, from, got, e, want)
	}
}

func expectGoesError(t *testing.T, c api.DropClock, start, from int, e api.Errno) {
	t.Helper()
	if got, f := drop.Goes(c, start, from); f != e || got != span(0, 0) {
		t.Errorf("Goes(%v, %d, %d) = %v, %v; want the error %v", c, start, from, got, f, e)
	}
}

func expectProves(t *testing.T, c api.DropClock, l []api.DropVisit, days, least int, want bool) {
	t.Helper()
	if got, e := drop.Proves(c, l, days, least); e != api.OK || got != want {
		t.Errorf("Proves(%v, %v, %d, %d) = %v, %v; want %v", c, l, days, least, got, e, want)
	}
}

func expectForever(t *testing.T, c api.DropClock, l []api.DropVisit, days, want int) {
	t.Helper()
	if got, e := drop.Forever(c, l, days); e != api.OK || got != want {
		t.Errorf("Forever(%v, %v, %d) = %d, %v; want %d", c, l, days, got, e, want)
	}
}

func expectForeverError(t *testing.T, c api.DropClock, l []api.DropVisit, days int, e api.Errno) {
	t.Helper()
	if got, f := drop.Forever(c, l, days); f != e || got != 0 {
		t.Errorf("Forever(%v, %v, %d) = %d, %v; want the error %v", c, l, days, got, f, e)
	}
}

// expectError fails unless all functions of visits return that error alone; hour stands for the until of two of them.
func expectError(t *testing.T, s setting, hour int, e api.Errno) {
	t.Helper()
	left, state, f := drop.Left(s.clock, s.start, s.visits, hour)
	if f != e || state != 0 || len(left) != 0 {
		t.Errorf("Left(%v, %d) = %v, %d, %v; want the error %v", s, hour, left, state, f, e)
	}
	if got, f := drop.Stops(s.clock, s.start, s.visits, hour); f != e || got != span(0, 0) {
		t.Errorf("Stops(%v, %d) = %v, %v; want the error %v", s, hour, got, f, e)
	}
	expectWorstError(t, s, hour, e)
}

// expectRoundError fails unless both functions of rounds return that error alone.
func expectRoundError(t *testing.T, c api.DropClock, l []api.DropVisit, days, least int, e api.Errno) {
	t.Helper()
	if got, f := drop.Proves(c, l, days, least); f != e || got {
		t.Errorf("Proves(%v, %v, %d, %d) = %v, %v; want the error %v", c, l, days, least, got, f, e)
	}
	expectForeverError(t, c, l, days, e)
}
