package dial

import (
	"iter"

	"turret/api"
)

// works are valid works. A place is what the document calls d: the second to which the hands are driven.
type works struct{ api.DialWorks }

// place returns the place to which the hands are driven when the clock says that it is a time.
func (w works) place(said int) int { return said - modulo(said, w.Jump) }

// places yields the places to which the hands can be driven at some of these times, in ascending order.
func (w works) places(times api.Span) iter.Seq[int] {
	first := w.place(times.Low + w.Error.Low)
	last := times.High + w.Error.High
	return func(yield func(int) bool) {
		for p := first; p <= last; p += w.Jump {
			if !yield(p) {
				return
			}
		}
	}
}

// times returns at which times of near the hands can be driven to a place.
func (w works) times(place int, near api.Span) api.Span {
	return api.Span{
		Low:  max(near.Low, place-w.Error.High),
		High: min(near.High, place+w.Jump-1-w.Error.Low),
	}
}

// dial returns one of the dials in a wind.
func (w works) dial(face int, wind api.Span) dial {
	f := w.Faces[face]
	return dial{works: w, DialFace: f, slack: slack(f.Links), wind: wind}
}

// dial is a dial that is looked at, with its slack and the wind.
type dial struct {
	works
	api.DialFace
	slack int
	wind  api.Span
}

// pull returns what the weight of the hand adds to the wind at a place.
func (d dial) pull(place int) int {
	if modulo(place, api.Hour) < api.Hour/2 {
		return d.Weight
	}
	return -d.Weight
}

// lags returns by how much the hand can hang back at a place. If neither all forces are above the friction nor all below it, one of them lets it hang anywhere.
func (d dial) lags(place int) api.Span {
	var lags api.Span
	pull := d.pull(place)
	if d.wind.Low+pull <= d.Friction {
		lags.High = d.slack
	}
	if d.wind.High+pull < -d.Friction {
		lags.Low = d.slack
	}
	return lags
}

// leastWind returns the least wind in which the hand hangs back by one of its lags at a place.
func (d dial) leastWind(place, lag int) int {
	if lag == d.slack {
		return d.wind.Low
	}
	return max(d.wind.Low, -d.Friction-d.pull(place))
}

// hand returns where the hand can be when it is driven to a place, in seconds since the noon of the day 0.
func (d dial) hand(place int) api.Span {
	lags := d.lags(place)
	return api.Span{Low: place + d.Set.Low - lags.High, High: place + d.Set.High - lags.Low}
}
