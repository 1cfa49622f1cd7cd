package dial_test

import (
	"iter"
	"math"
	"math/big"
	"math/rand/v2"
	"slices"
	"testing"

	"turret/api"
	"turret/dial"
)

func span(low, high int) api.Span { return api.Span{Low: low, High: high} }

func single(n int) api.Span { return span(n, n) }

func spans(s ...api.Span) []api.Span { return s }

func numbers(n ...int) []int { return n }

func link(slack, num, den int) api.DialLink {
	return api.DialLink{Slack: slack, Turns: api.Ratio{Num: num, Den: den}}
}

func links(l ...api.DialLink) []api.DialLink { return l }

// plain is the face of the chapter's examples.
func plain() api.DialFace {
	return api.DialFace{Links: links(link(5, 1, 1)), Weight: 30, Friction: 10}
}

// linked returns the face of the examples with other links.
func linked(l ...api.DialLink) api.DialFace {
	f := plain()
	f.Links = l
	return f
}

func forced(weight, friction int) api.DialFace {
	f := plain()
	f.Weight, f.Friction = weight, friction
	return f
}

func set(s api.Span) api.DialFace {
	f := plain()
	f.Set = s
	return f
}

func works(jump int, fast api.Span, faces ...api.DialFace) api.DialWorks {
	return api.DialWorks{Jump: jump, Error: fast, Faces: faces}
}

// church are the works of the examples.
func church() api.DialWorks { return works(30, span(-2, 3), plain()) }

// faced returns the works of the examples with other faces.
func faced(f ...api.DialFace) api.DialWorks { return works(30, span(-2, 3), f...) }

// right returns works with a clock that is right, whose hands move each second.
func right(f ...api.DialFace) api.DialWorks { return works(1, single(0), f...) }

func readings(r ...api.DialReading) []api.DialReading { return r }

func read(face, shown int) api.DialReading { return api.DialReading{Face: face, Shown: shown} }

// readAll returns readings of the face 0.
func readAll(shown ...int) []api.DialReading {
	var l []api.DialReading
	for _, n := range shown {
		l = append(l, read(0, n))
	}
	return l
}

func truth(fast, set, wind, lag int) api.DialTruth {
	return api.DialTruth{Error: fast, Set: set, Wind: wind, Lag: lag}
}

// breeze is the first wind of the examples, and gust the second one.
func breeze() api.Span { return span(-5, 5) }

func gust() api.Span { return span(-25, 5) }

func modulo(a, n int) int { return (a%n + n) % n }

func allOf(s api.Span) []int {
	var list []int
	for n := s.Low; n <= s.High; n++ {
		list = append(list, n)
	}
	return list
}

// slackOf returns the slack of a face, link by link as the document has it.
func slackOf(f api.DialFace) int {
	sum := new(big.Rat)
	for _, l := range f.Links {
		sum.Add(sum, big.NewRat(int64(l.Slack*3600*l.Turns.Den), int64(1000*l.Turns.Num)))
	}
	up := new(big.Int).Div(new(big.Int).Neg(sum.Num()), sum.Denom())
	return int(-up.Int64())
}

// drivenTo returns the d of the document.
func drivenTo(w api.DialWorks, at, fast int) int {
	d := (at + fast) / w.Jump * w.Jump
	if d > at+fast {
		d -= w.Jump
	}
	return d
}

// lagsOf returns the lags of a face with that slack, with its hand at d, in one wind.
func lagsOf(f api.DialFace, slack, d, wind int) api.Span {
	force := wind - f.Weight
	if modulo(d, 3600) < 1800 {
		force = wind + f.Weight
	}
	switch {
	case force > f.Friction:
		return single(0)
	case force < -f.Friction:
		return single(slack)
	}
	return span(0, slack)
}

// offOf returns by how much a dial is off in a truth.
func offOf(w api.DialWorks, at int, t api.DialTruth) int {
	return drivenTo(w, at, t.Error) + t.Set - t.Lag - at
}

// choice is which integers of a span are tried, for a face.
type choice func(f api.DialFace, s api.Span) []int

func everything(_ api.DialFace, s api.Span) []int { return allOf(s) }

func ends(_ api.DialFace, s api.Span) []int { return slices.Compact(numbers(s.Low, s.High)) }

// turning returns the ends of a wind, and each wind of it with which the force is next to a friction.
func turning(f api.DialFace, wind api.Span) []int {
	list := ends(f, wind)
	for _, friction := range numbers(f.Friction, -f.Friction) {
		for _, weight := range numbers(f.Weight, -f.Weight) {
			for _, n := range numbers(-1, 0, 1) {
				if x := friction + weight + n; x > wind.Low && x < wind.High {
					list = append(list, x)
				}
			}
		}
	}
	slices.Sort(list)
	return slices.Compact(list)
}

// setting is a dial that is looked at; all of it is valid.
type setting struct {
	works    api.DialWorks
	face, at int
	wind     api.Span
}

// truths yields the truths of a setting, ascending by Error, and then by Wind: all of them, or those with chosen winds, sets and lags.
func (s setting) truths(winds, rest choice) iter.Seq[api.DialTruth] {
	f := s.works.Faces[s.face]
	slack := slackOf(f)
	return func(yield func(api.DialTruth) bool) {
		for fast := s.works.Error.Low; fast <= s.works.Error.High; fast++ {
			for _, wind := range winds(f, s.wind) {
				lags := rest(f, lagsOf(f, slack, drivenTo(s.works, s.at, fast), wind))
				for _, n := range rest(f, f.Set) {
					for _, lag := range lags {
						if !yield(truth(fast, n, wind, lag)) {
							return
						}
					}
				}
			}
		}
	}
}

// all yields all truths, and corners those that can be at the ends.
func (s setting) all() iter.Seq[api.DialTruth] { return s.truths(everything, everything) }

func (s setting) corners() iter.Seq[api.DialTruth] { return s.truths(turning, ends) }

// extremes returns the first of some truths in which the dial is off by the least, and by the greatest number.
func (s setting) extremes(list iter.Seq[api.DialTruth]) (least, greatest api.DialTruth) {
	first := true
	for t := range list {
		off := offOf(s.works, s.at, t)
		if first || off < offOf(s.works, s.at, least) {
			least = t
		}
		if first || off > offOf(s.works, s.at, greatest) {
			greatest = t
		}
		first = false
	}
	return least, greatest
}

// holds reports whether a truth is one.
func (s setting) holds(t api.DialTruth) bool {
	f := s.works.Faces[s.face]
	in := func(s api.Span, n int) bool { return s.Low <= n && n <= s.High }
	lags := lagsOf(f, slackOf(f), drivenTo(s.works, s.at, t.Error), t.Wind)
	return in(s.works.Error, t.Error) && in(f.Set, t.Set) && in(s.wind, t.Wind) && in(lags, t.Lag)
}

// shown returns what the dial can show, as its truths have it.
func (s setting) shown() []api.Span {
	can := make([]bool, api.HalfDay)
	for t := range s.all() {
		can[modulo(s.at+offOf(s.works, s.at, t), api.HalfDay)] = true
	}
	return spansOf(can, 0)
}

// spread returns what the dial can show, counted from where what it shows begins and ends.
func (s setting) spread() []api.Span {
	f := s.works.Faces[s.face]
	slack := slackOf(f)
	var begin [2 * api.HalfDay]int
	for fast := s.works.Error.Low; fast <= s.works.Error.High; fast++ {
		d := drivenTo(s.works, s.at, fast)
		for _, wind := range turning(f, s.wind) {
			lags := lagsOf(f, slack, d, wind)
			low := modulo(d+f.Set.Low-lags.High, api.HalfDay)
			begin[low]++
			begin[low+f.Set.High-f.Set.Low+lags.High-lags.Low+1]--
		}
	}
	can := make([]bool, api.HalfDay)
	open := 0
	for n, x := range begin {
		open += x
		can[n%api.HalfDay] = can[n%api.HalfDay] || open > 0
	}
	return spansOf(can, 0)
}

// spansOf returns the numbers of what is true, counted from first on, as spans.
func spansOf(list []bool, first int) []api.Span {
	var out []api.Span
	for i, x := range list {
		switch n := first + i; {
		case !x:
		case i > 0 && list[i-1]:
			out[len(out)-1].High = n
		default:
			out = append(out, single(n))
		}
	}
	return out
}

// observation is readings of dials; all of it is valid.
type observation struct {
	works      api.DialWorks
	readings   []api.DialReading
	near, wind api.Span
}

// at returns the setting in which a reading was made at a time.
func (o observation) at(r api.DialReading, at int) setting {
	return setting{o.works, r.Face, at, o.wind}
}

// agrees reports whether a reading can be right if the hands are driven to d.
func (o observation) agrees(r api.DialReading, d int, winds choice) bool {
	f := o.works.Faces[r.Face]
	slack := slackOf(f)
	for _, wind := range winds(f, o.wind) {
		lags := lagsOf(f, slack, d, wind)
		for n := f.Set.Low; n <= f.Set.High; n++ {
			// The lag with which the dial shows it, if there is one.
			lag := lags.Low + modulo(d+n-lags.Low-r.Shown, api.HalfDay)
			if lag <= lags.High {
				return true
			}
		}
	}
	return false
}

// possible returns for each d to which the hands can be driven, from the first one on, whether all of some readings can be right.
func (o observation) possible(l []api.DialReading, winds choice) (first int, can []bool) {
	first = drivenTo(o.works, o.near.Low, o.works.Error.Low)
	last := drivenTo(o.works, o.near.High, o.works.Error.High)
	for d := first; d <= last; d += o.works.Jump {
		wrong := func(r api.DialReading) bool { return !o.agrees(r, d, winds) }
		can = append(can, !slices.ContainsFunc(l, wrong))
	}
	return first, can
}

// times returns the times at which all readings can be right, time by time and error by error.
func (o observation) times(winds choice) []api.Span {
	first, can := o.possible(o.readings, winds)
	var list []bool
	for _, at := range allOf(o.near) {
		found := false
		for fast := o.works.Error.Low; fast <= o.works.Error.High && !found; fast++ {
			found = can[(drivenTo(o.works, at, fast)-first)/o.works.Jump]
		}
		list = append(list, found)
	}
	return spansOf(list, o.near.Low)
}

// pairs returns the readings that cannot both be right.
func (o observation) pairs(winds choice) [][2]int {
	var list [][2]int
	for i := range o.readings {
		for j := i + 1; j < len(o.readings); j++ {
			_, can := o.possible(readings(o.readings[i], o.readings[j]), winds)
			if !slices.Contains(can, true) {
				list = append(list, [2]int{i, j})
			}
		}
	}
	return list
}

func seeded(seed uint64) *rand.Rand { return rand.New(rand.NewPCG(seed, 4)) }

// size is how great random settings are: how wide spans are, how far from 0 they begin, the greatest slack of a link, the greatest force, and how wide near is.
type size struct{ width, far, slack, force, near int }

// few have so few truths that all can be tried; many have as many as there can be.
func few() size { return size{width: 4, far: 6, slack: 4, force: 8, near: 40} }

func many() size { return size{width: 7200, far: 3600, slack: 600, force: 10000, near: 7200} }

func randomSpan(r *rand.Rand, width, far int) api.Span {
	low := r.IntN(2*far+1) - far
	return span(low, min(far, low+r.IntN(width+1)))
}

func randomFace(r *rand.Rand, s size) api.DialFace {
	for {
		f := api.DialFace{Set: randomSpan(r, s.width, s.far)}
		for range r.IntN(4) {
			f.Links = append(f.Links, link(r.IntN(s.slack+1), 1+r.IntN(4), 1+r.IntN(2)))
		}
		f.Weight, f.Friction = r.IntN(2*s.force+1)-s.force, r.IntN(s.force/2+1)
		if slackOf(f) <= 3600 {
			return f
		}
	}
}

// randomTime returns a time, most often one next to a half hour, or to the first or last time.
func randomTime(r *rand.Rand) int {
	first := numbers(0, api.HalfDay, 71*api.HalfDay, api.MaxTime-6*api.HalfDay, r.IntN(api.MaxTime))[r.IntN(5)]
	at := first + 1800*r.IntN(30) + r.IntN(17) - 8
	if r.IntN(10) == 0 {
		at = numbers(r.IntN(4), api.MaxTime-r.IntN(4))[r.IntN(2)]
	}
	return min(api.MaxTime, max(0, at))
}

func randomWorks(r *rand.Rand, s size) api.DialWorks {
	jumps := numbers(1, 1, 2, 3, 4, 5, 8, 30, 60, 900, 1800, 3600)
	w := api.DialWorks{Jump: jumps[r.IntN(len(jumps))], Error: randomSpan(r, s.width, s.far)}
	for range 1 + r.IntN(4) {
		w.Faces = append(w.Faces, randomFace(r, s))
	}
	return w
}

func randomSetting(r *rand.Rand, s size) setting {
	w := randomWorks(r, s)
	return setting{w, r.IntN(len(w.Faces)), randomTime(r), randomSpan(r, s.force, s.force)}
}

// settings yields random settings.
func settings(seed uint64, n int, s size) iter.Seq[setting] {
	return func(yield func(setting) bool) {
		r := seeded(seed)
		for range n {
			if !yield(randomSetting(r, s)) {
				return
			}
		}
	}
}

// truth returns a random truth with that error.
func (s setting) truth(r *rand.Rand, fast int) api.DialTruth {
	pick := func(s api.Span) int { return s.Low + r.IntN(s.High-s.Low+1) }
	f := s.works.Faces[s.face]
	t := truth(fast, pick(f.Set), pick(s.wind), 0)
	t.Lag = pick(lagsOf(f, slackOf(f), drivenTo(s.works, s.at, fast), t.Wind))
	return t
}

// observations yields random readings, each with a time at which all of them are right, or -1 if some were changed.
func observations(seed uint64, n int, s size) iter.Seq2[observation, int] {
	return func(yield func(observation, int) bool) {
		r := seeded(seed)
		for range n {
			o, at := randomObservation(r, s)
			if !yield(o, at) {
				return
			}
		}
	}
}

func randomObservation(r *rand.Rand, s size) (observation, int) {
	x := randomSetting(r, s)
	low := max(0, x.at-r.IntN(s.near+1))
	o := observation{works: x.works, near: span(low, min(api.MaxTime, max(x.at, low+r.IntN(s.near+1)))), wind: x.wind}
	fast := o.works.Error.Low + r.IntN(o.works.Error.High-o.works.Error.Low+1)
	at, changed := x.at, r.IntN(2) == 0
	for range r.IntN(6) {
		x.face = r.IntN(len(o.works.Faces))
		shown := modulo(at+offOf(o.works, at, x.truth(r, fast)), api.HalfDay)
		if changed {
			shown = modulo(shown+r.IntN(2*s.far+1)-s.far, api.HalfDay)
		}
		o.readings = append(o.readings, read(x.face, shown))
	}
	if changed {
		at = -1
	}
	return o, at
}

// wild are integers that nothing allows.
func wild() []int { return numbers(math.MinInt, math.MaxInt, -1<<62, 1<<62) }

// badSpans are spans that are not valid from least to most.
func badSpans(least, most int) []api.Span {
	list := spans(span(least+1, least), span(most, most-1), span(least-1, least), span(least-1, most), single(least-1), span(least, most+1), single(most+1), span(most, most+1), span(math.MaxInt, math.MinInt))
	for _, n := range wild() {
		list = append(list, single(n), span(min(n, least), max(n, most)))
	}
	return list
}

// badFaces are faces that are not valid.
func badFaces() []api.DialFace {
	list := []api.DialFace{
		linked(slices.Repeat(links(link(0, 1, 1)), 5)...), linked(make([]api.DialLink, 4)...), linked(make([]api.DialLink, 100)...),
		// Slack just beyond what is allowed: by a fraction, by a second, and by as much as there can be.
		linked(link(1000, 1, 1), link(1, 200, 1)), linked(link(1000, 3, 1), link(1000, 3, 1), link(1000, 3, 1), link(1, 200, 1)),
		linked(link(1000, 200, 199), link(18, 3, 1)), linked(link(1000, 199, 200)), linked(link(500, 1, 2), link(5, 18, 1)),
		linked(link(1000, 1, 200)), linked(slices.Repeat(links(link(1000, 1, 200)), 4)...), linked(link(1000, 191, 193), link(1, 199, 197), link(1, 200, 1), link(0, 1, 1)),
		linked(slices.Repeat(links(link(1000, 200, 200)), 4)...),
	}
	for _, n := range append(wild(), -1, 1001) {
		list = append(list, linked(link(n, 1, 1)), linked(link(n, 200, 1)), linked(link(0, 1, 1), link(n, 200, 1)), linked(link(0, 1, 1), link(0, 1, 1), link(0, 1, 1), link(n, 200, 1)))
	}
	for _, n := range append(wild(), 0, -1, 201) {
		list = append(list, linked(link(0, n, 1)), linked(link(0, 1, n)), linked(link(1, 200, 1), link(1, n, 1)), linked(link(1, 1, n), link(0, 1, 1)), linked(link(0, n, n)))
	}
	for _, s := range badSpans(-3600, 3600) {
		list = append(list, set(s))
	}
	for _, n := range append(wild(), -10001, 10001) {
		list = append(list, forced(n, 0))
	}
	for _, n := range append(wild(), -1, 10001) {
		list = append(list, forced(0, n))
	}
	return list
}

// badWorks are works that are not valid.
func badWorks() []api.DialWorks {
	list := []api.DialWorks{{}, faced(), faced(slices.Repeat([]api.DialFace{plain()}, 9)...), faced(make([]api.DialFace, 1000)...), {Jump: 7, Error: span(2, 1), Faces: []api.DialFace{forced(0, -1)}}}
	for _, n := range append(wild(), 0, -1, -30, -3600, 7, 11, 7200, 1799, 3599, 3601) {
		list = append(list, works(n, span(-2, 3), plain()))
	}
	for _, s := range badSpans(-3600, 3600) {
		list = append(list, works(30, s, plain()))
	}
	for _, f := range badFaces() {
		list = append(list, faced(f), faced(plain(), f), faced(f, plain(), plain()))
	}
	return list
}

func expectOff(t *testing.T, w api.DialWorks, face, at int, wind, want api.Span) {
	t.Helper()
	if s, e := dial.Off(w, face, at, wind); s != want || e != api.OK {
		t.Errorf("Off(%v, %d, %d, %v) = %v, %v; want %v", w, face, at, wind, s, e, want)
	}
}

func expectReach(t *testing.T, s setting, least, greatest api.DialTruth) {
	t.Helper()
	low, e := dial.Reach(s.works, s.face, s.at, s.wind, false)
	high, f := dial.Reach(s.works, s.face, s.at, s.wind, true)
	if low != least || high != greatest || e != api.OK || f != api.OK {
		t.Errorf("Reach of %v: %v, %v and %v, %v; want %v and %v", s, low, e, high, f, least, greatest)
	}
}

func expectShows(t *testing.T, w api.DialWorks, face, at int, wind api.Span, want ...api.Span) {
	t.Helper()
	if l, e := dial.Shows(w, face, at, wind); !slices.Equal(l, want) || e != api.OK {
		t.Errorf("Shows(%v, %d, %d, %v) = %v, %v; want %v", w, face, at, wind, l, e, want)
	}
}

// expectFaceErrors fails unless the functions of a face return that error alone.
func expectFaceErrors(t *testing.T, w api.DialWorks, face, at int, wind api.Span, want api.Errno) {
	t.Helper()
	if s, e := dial.Off(w, face, at, wind); s != (api.Span{}) || e != want {
		t.Errorf("Off(%v, %d, %d, %v) = %v, %v; want the error %v", w, face, at, wind, s, e, want)
	}
	for _, most := range []bool{false, true} {
		if x, e := dial.Reach(w, face, at, wind, most); x != (api.DialTruth{}) || e != want {
			t.Errorf("Reach(%v, %d, %d, %v, %v) = %v, %v; want the error %v", w, face, at, wind, most, x, e, want)
		}
	}
	if l, e := dial.Shows(w, face, at, wind); len(l) > 0 || e != want {
		t.Errorf("Shows(%v, %d, %d, %v) = %v, %v; want the error %v", w, face, at, wind, l, e, want)
	}
}

func expectTimes(t *testing.T, w api.DialWorks, l []api.DialReading, near, wind api.Span, want ...api.Span) {
	t.Helper()
	e := api.OK
	if len(want) == 0 {
		e = api.ErrNone
	}
	if times, f := dial.Times(w, l, near, wind); !slices.Equal(times, want) || f != e {
		t.Errorf("Times(%v, %v, %v, %v) = %v, %v; want %v, %v", w, l, near, wind, times, f, want, e)
	}
}

func expectPairs(t *testing.T, w api.DialWorks, l []api.DialReading, near, wind api.Span, want ...[2]int) {
	t.Helper()
	if pairs, e := dial.Pairs(w, l, near, wind); !slices.Equal(pairs, want) || e != api.OK {
		t.Errorf("Pairs(%v, %v, %v, %v) = %v, %v; want %v", w, l, near, wind, pairs, e, want)
	}
}

// expectReadingErrors fails unless the functions of readings return that error alone.
func expectReadingErrors(t *testing.T, w api.DialWorks, l []api.DialReading, near, wind api.Span, want api.Errno) {
	t.Helper()
	if times, e := dial.Times(w, l, near, wind); len(times) > 0 || e != want {
		t.Errorf("Times(%v, %v, %v, %v) = %v, %v; want the error %v", w, l, near, wind, times, e, want)
	}
	if pairs, e := dial.Pairs(w, l, near, wind); len(pairs) > 0 || e != want {
		t.Errorf("Pairs(%v, %v, %v, %v) = %v, %v; want the error %v", w, l, near, wind, pairs, e, want)
	}
}

func expectPoise(t *testing.T, f api.DialFace, wind api.Span, heavy, tail int) {
	t.Helper()
	if h, n, e := dial.Poise(f, wind); h != heavy || n != tail || e != api.OK {
		t.Errorf("Poise(%v, %v) = %d, %d, %v; want %d, %d", f, wind, h, n, e, heavy, tail)
	}
}

func expectPoiseError(t *testing.T, f api.DialFace, wind api.Span, want api.Errno) {
	t.Helper()
	if h, n, e := dial.Poise(f, wind); h != 0 || n != 0 || e != want {
		t.Errorf("Poise(%v, %v) = %d, %d, %v; want the error %v", f, wind, h, n, e, want)
	}
}
