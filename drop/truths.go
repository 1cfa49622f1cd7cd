package drop

import "turret/api"

// state is what is known of a clock: whether it has stopped. Left returns these numbers.
type state int

const (
	going    state = iota // in no truth
	doubtful              // in some
	stopped               // in all of them
)

// truths is what can be in an hour of a round.
type truths struct {
	round
	left map[int][]api.Span // what can be left, by how many visits were made; each list as Left returns it
	some bool               // in some truth the clock has stopped
}

// newTruths returns what can be at the beginning, with so much left, or the errors of visits.
func newTruths(c api.DropClock, start int, l []api.DropVisit, hour int) (*truths, api.Errno) {
	r, e := newRound(c, l)
	if e != api.OK {
		return nil, e
	}
	if !within(0, r.Line, start) || !within(0, api.MaxDropHours, hour) {
		return nil, api.ErrRange
	}
	return &truths{round: r, left: map[int][]api.Span{0: {{Low: start, High: start}}}}, api.OK
}

// wind goes from the beginning of an hour to after its visits.
func (t *truths) wind(hour int) {
	for made := range t.visits {
		if t.canCome(made, hour) {
			t.left[made+1] = union(t.left[made+1], t.afterVisit(made))
		}
		if !t.canWait(made, hour) {
			t.left[made] = nil
		}
	}
}

// afterVisit returns what can be left after the visit that follows so many.
func (t *truths) afterVisit(made int) []api.Span {
	wind := t.visits[made].Wind
	list := make([]api.Span, 0, len(t.left[made]))
	for _, s := range t.left[made] {
		list = extend(list, api.Span{Low: t.wound(s.Low, wind.Low), High: t.wound(s.High, wind.High)})
	}
	return list
}

// use goes from after the visits of an hour to its end.
func (t *truths) use(used api.Span) {
	for made := range len(t.visits) + 1 {
		list := t.left[made][:0] // no span is written over before it is read
		for _, s := range t.left[made] {
			if s.Low < used.High {
				t.some = true
			}
			if s.High >= used.Low {
				list = extend(list, api.Span{Low: max(0, s.Low-used.High), High: s.High - used.Low})
			}
		}
		t.left[made] = list
	}
}

// all returns what can be left, however many visits were made.
func (t *truths) all() []api.Span {
	var list []api.Span
	for made := range len(t.visits) + 1 {
		list = union(list, t.left[made])
	}
	return list
}

// none reports whether the clock goes in no truth.
func (t *truths) none() bool {
	for made := range len(t.visits) + 1 {
		if len(t.left[made]) > 0 {
			return false
		}
	}
	return true
}

// state returns in how many of the truths the clock has stopped.
func (t *truths) state() state {
	switch {
	case !t.some:
		return going
	case t.none():
		return stopped
	}
	return doubtful
}

// stops goes on from one hour until another, and returns the hours in which the clock became doubtful and stopped; until stands for no hour before.
func (t *truths) stops(from, until int) api.Span {
	became := map[state]int{doubtful: until, stopped: until}
	for hour, used := range t.hours(from, until) {
		t.wind(hour)
		t.use(used)
		now := t.state()
		if now != going {
			became[doubtful] = min(became[doubtful], hour)
		}
		if now == stopped {
			became[stopped] = hour
			break
		}
	}
	return api.Span{Low: became[doubtful], High: became[stopped]}
}

// union returns the integers of two lists of spans, as Left returns them; both lists ascend.
func union(a, b []api.Span) []api.Span {
	list := make([]api.Span, 0, len(a)+len(b))
	for len(a) > 0 && len(b) > 0 {
		if a[0].Low > b[0].Low {
			a, b = b, a
		}
		list = extend(list, a[0])
		a = a[1:]
	}
	list = extend(list, a...)
	return extend(list, b...)
}

// extend adds spans, whose Lows ascend and are not below those of the list, and joins those between which no integer lies.
func extend(list []api.Span, spans ...api.Span) []api.Span {
	for _, s := range spans {
		last := len(list) - 1
		if last >= 0 && s.Low <= list[last].High+1 {
			list[last].High = max(list[last].High, s.High)
		} else {
			list = append(list, s)
		}
	}
	return list
}
