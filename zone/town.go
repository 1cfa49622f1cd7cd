package zone

import (
	"iter"

	"turret/api"
)

// halfDay is the minutes that a minute hand shows.
const halfDay = api.MaxZoneShown + 1

// era is a span of instants in which the offset of a town is the same.
type era struct {
	api.Span
	offset int
}

// minutes returns the minutes that come in an era, which follow one another.
func (e era) minutes() api.Span {
	return api.Span{Low: quotient(e.Low+e.offset, api.Minute), High: quotient(e.High+e.offset, api.Minute)}
}

// means returns the instants of an era at which a minute comes, and whether it does.
func (e era) means(minute int) (at api.Span, comes bool) {
	if m := e.minutes(); !within(m.Low, m.High, minute) {
		return api.Span{}, false
	}
	begin := minute*api.Minute - e.offset
	return overlap(e.Span, api.Span{Low: begin, High: begin + api.Minute - 1})
}

// town is a valid town.
type town struct{ api.ZoneTown }

// eras yields the eras of a town in their order, as far as they lie in a span of instants.
func (z town) eras(in api.Span) iter.Seq[era] {
	return func(yield func(era) bool) {
		now := era{in, z.Offset}
		for _, c := range z.Changes {
			if c.At > in.High {
				break
			}
			before := era{api.Span{Low: now.Low, High: c.At - 1}, now.offset}
			if before.Low <= before.High && !yield(before) {
				return
			}
			now = era{api.Span{Low: max(in.Low, c.At), High: in.High}, c.Offset}
		}
		yield(now)
	}
}

// offset returns the offset that counts at an instant.
func (z town) offset(at int) (offset int) {
	for e := range z.eras(api.Span{Low: at, High: at}) {
		offset = e.offset
	}
	return offset
}

// means returns the instants at which a minute comes.
func (z town) means(minute int) []api.Span {
	var spans []api.Span
	for e := range z.eras(allInstants()) {
		if at, comes := e.means(minute); comes {
			spans = append(spans, at)
		}
	}
	return joined(spans...)
}

// once reports whether a minute comes once.
func (z town) once(minute int) bool {
	spans := z.means(minute)
	return len(spans) == 1 && spans[0].High-spans[0].Low == api.Minute-1
}

// shows returns the instants of a span at which a minute hand shows a minute of half a day.
func (z town) shows(shown int, near api.Span) []api.Span {
	var spans []api.Span
	for e := range z.eras(near) {
		m := e.minutes()
		for minute := m.Low + modulo(shown-m.Low, halfDay); minute <= m.High; minute += halfDay {
			at, _ := e.means(minute)
			spans = append(spans, at)
		}
	}
	return joined(spans...)
}

// minutes returns the minutes that come in a span of instants, era by era.
func (z town) minutes(in api.Span) []api.Span {
	var spans []api.Span
	for e := range z.eras(in) {
		spans = append(spans, e.minutes())
	}
	return spans
}

// odd returns the minutes that come twice, and those that never come between others that do.
func (z town) odd() (twice, never []api.Span) {
	// Minutes come more or less often only from where the minutes of an era begin or end. One that goes on from an era to the next ends the one and begins the other: it is alone between two cuts.
	var cuts []int
	for _, m := range z.minutes(allInstants()) {
		cuts = append(cuts, m.Low, m.High+1)
	}
	twice = where(func(minute int) bool { return len(z.means(minute)) > 1 }, cuts...)
	never = where(func(minute int) bool { return len(z.means(minute)) == 0 }, cuts...)
	return twice, never
}
