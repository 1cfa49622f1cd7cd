package rate

import "turret/api"

// nowhere is how far one comes from a rate from which one comes to none.
const nowhere = -api.MaxRate - 1

// reach is a set of spans that has, with each span, all spans within it. For each rate it holds the greatest High of the spans with this Low, or a lesser number than the rate if there are none.
type reach [2*api.MaxRate + 1]int

// newReach returns the reach without a span.
func newReach() *reach {
	var r reach
	for i := range r {
		r[i] = nowhere
	}
	return &r
}

// from returns how far the spans with this Low reach.
func (r *reach) from(low int) int { return r[low+api.MaxRate] }

// extend adds a span with this Low.
func (r *reach) extend(low, high int) {
	i := low + api.MaxRate
	r[i] = max(r[i], high)
}

// has reports whether a span is in the set; none is that begins outside of all rates.
func (r *reach) has(s api.Span) bool {
	return within(-api.MaxRate, api.MaxRate, s.Low) && s.High <= r.from(s.Low)
}

// spread adds all spans that are within those that were added.
func (r *reach) spread() {
	for low := -api.MaxRate; low < api.MaxRate; low++ {
		r.extend(low+1, r.from(low))
	}
}

// join adds all spans of another set.
func (r *reach) join(other *reach) {
	for i, high := range other {
		r[i] = max(r[i], high)
	}
}

// add adds all spans that a gain makes one of the images.
func (r *reach) add(images *reach, gain api.Span) {
	first, last := max(-api.MaxRate, -api.MaxRate-gain.Low), min(api.MaxRate, api.MaxRate-gain.Low)
	for low := first; low <= last; low++ {
		high := images.from(low+gain.Low) - gain.High
		r.extend(low, min(high, api.MaxRate))
	}
}

// images returns the images of which, whatever is seen with an error, a span of the set remains.
func (r *reach) images(wrong int) *reach {
	images := newReach()
	further := nowhere // how far an image reaches that begins one rate further on
	for low := api.MaxRate; low >= -api.MaxRate; low-- {
		high := r.from(low)
		// Never more than this remains from Low on. If that is in the set, what remains further on decides.
		if most := low + 2*wrong; high >= most {
			high = max(most, further)
		}
		images.extend(low, high)
		further = high
	}
	return images
}
