package dial

import (
	"cmp"
	"slices"

	"turret/api"
)

// glance is a dial that is looked at at a time.
type glance struct {
	dial
	at int
}

// newGlance returns a dial that is looked at, or the errors of a face.
func newGlance(w api.DialWorks, face, at int, wind api.Span) (glance, api.Errno) {
	switch {
	case !validWorks(w):
		return glance{}, api.ErrArg
	case !within(0, len(w.Faces)-1, face):
		return glance{}, api.ErrNone
	case !within(0, api.MaxTime, at):
		return glance{}, api.ErrRange
	case !validWind(wind):
		return glance{}, api.ErrArg
	}
	return glance{works{w}.dial(face, wind), at}, api.OK
}

func (g glance) now() api.Span { return api.Span{Low: g.at, High: g.at} }

// off returns by how much the dial is off in a truth.
func (g glance) off(t api.DialTruth) int {
	return g.place(g.at+t.Error) + t.Set - t.Lag - g.at
}

// slower compares truths: the one in which the dial is slower is the smaller one.
func (g glance) slower(a, b api.DialTruth) int { return cmp.Compare(g.off(a), g.off(b)) }

// faster compares truths: the one in which the dial is faster is the smaller one.
func (g glance) faster(a, b api.DialTruth) int { return g.slower(b, a) }

// least returns the first truth in which the dial is off by the least number.
func (g glance) least() api.DialTruth {
	var slow []api.DialTruth
	for p := range g.places(g.now()) {
		slow = append(slow, g.truth(p, g.Set.Low, g.lags(p).High))
	}
	return slices.MinFunc(slow, g.slower)
}

// greatest returns the first truth in which the dial is off by the greatest number.
func (g glance) greatest() api.DialTruth {
	var fast []api.DialTruth
	for p := range g.places(g.now()) {
		fast = append(fast, g.truth(p, g.Set.High, g.lags(p).Low))
	}
	return slices.MinFunc(fast, g.faster)
}

// truth returns the first truth in which the hands are driven to a place, with this set and this lag.
func (g glance) truth(place, set, lag int) api.DialTruth {
	return api.DialTruth{
		Error: max(g.Error.Low, place-g.at),
		Set:   set,
		Wind:  g.leastWind(place, lag),
		Lag:   lag,
	}
}
