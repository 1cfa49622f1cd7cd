package wire

import (
	"iter"
	"math"

	"turret/api"
)

// never is the excess of what is wrong whatever the Error is.
const never = math.MaxInt

// kind is a source with what is special to sources of its kind.
type kind interface {
	// valid reports whether all that the kind uses is as it can be; Error is already known to be.
	valid() bool
	// maxSaid returns the greatest number that the source can say; the least one is 0.
	maxSaid() int
	// excess returns by how much Error has to be wider to both sides so that what was said at a true time is right. It is exact up to MaxWireStretch.
	excess(t, said int) int
}

// kindOf returns a source with what is special to its kind, and false if there is no such kind.
func kindOf(s api.WireSource) (k kind, found bool) {
	kinds := map[api.WireKind]func(api.WireSource) kind{
		api.WireClock:  func(s api.WireSource) kind { return clock{s} },
		api.WireEvent:  func(s api.WireSource) kind { return event{s} },
		api.WireSun:    func(s api.WireSource) kind { return sun{s} },
		api.WireSignal: func(s api.WireSource) kind { return signal{s} },
	}
	of, found := kinds[s.Kind]
	if !found {
		return nil, false
	}
	return of(s), true
}

// kindsOf returns sources with what is special to their kinds, and whether they are valid.
func kindsOf(w []api.WireSource) (list []kind, valid bool) {
	if !within(1, api.MaxWireSources, len(w)) {
		return nil, false
	}
	for _, s := range w {
		k, found := kindOf(s)
		if !found || !validSpan(s.Error, api.MaxWireError) || !k.valid() {
			return nil, false
		}
		list = append(list, k)
	}
	return list, true
}

// clock is a dial that was set once, and drifts.
type clock struct{ api.WireSource }

func (c clock) valid() bool {
	return within(0, api.MaxTime, c.At) && validSpan(c.Drift, api.MaxWireDrift)
}

func (c clock) maxSaid() int { return api.HalfDay - 1 }

func (c clock) excess(t, said int) int {
	if t < c.At {
		return never
	}
	fast := c.fast(t - c.At)
	return aside(said-t-fast.Low, fast.High-fast.Low, api.HalfDay)
}

// fast returns by how much the clock can be fast so long after it was set.
func (c clock) fast(after int) api.Span {
	const part = 1000 * api.Day // the drift is in thousandths of a second a day
	return api.Span{
		Low:  c.Error.Low + down(c.Drift.Low*after, part),
		High: c.Error.High + up(c.Drift.High*after, part),
	}
}

// event is what happens again and again.
type event struct{ api.WireSource }

func (e event) valid() bool {
	return within(0, api.MaxTime, e.At) && within(1, api.MaxTime, e.Every)
}

func (e event) maxSaid() int { return 0 }

func (e event) excess(t, _ int) int {
	after := t - e.At - e.Error.Low
	if after < 0 {
		// Before the first one there is none.
		return -after
	}
	return aside(after, e.Error.High-e.Error.Low, e.Every)
}

// aside returns by how much the span from 0 to width, which comes again each round, has to be wider to both sides to have a number.
func aside(n, width, round int) int {
	n = modulo(n, round)
	return max(0, min(n-width, round-n))
}

// sun is a mark that the sun crosses at its noon.
type sun struct{ api.WireSource }

func (s sun) valid() bool {
	return within(1, api.MaxWireTable, len(s.Table)) && within(-api.MaxWireError, api.MaxWireError, s.Table...)
}

func (s sun) maxSaid() int { return 0 }

func (s sun) excess(t, _ int) int {
	least := never
	for day := range daysAt(t) {
		noon := day*api.Day + s.Table[day%len(s.Table)]
		least = min(least, beyond(s.Error, t-noon))
	}
	return least
}

// daysAt yields the days whose noon of the sun can be near a time: the day of this time, and the next one. All others are further away than an Error can be, however it is stretched.
func daysAt(t int) iter.Seq[int] {
	today := t / api.Day
	return func(yield func(int) bool) {
		for day := today; day <= today+1; day++ {
			if !yield(day) {
				return
			}
		}
	}
}

// signal is what comes over a wire, and says when it was sent.
type signal struct{ api.WireSource }

func (s signal) valid() bool { return true }

func (s signal) maxSaid() int { return api.MaxTime }

func (s signal) excess(t, said int) int { return beyond(s.Error, t-said) }
