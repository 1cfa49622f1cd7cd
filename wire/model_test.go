package wire_test

import (
	"iter"
	"math/rand/v2"
	"slices"

	"turret/api"
)

// floor and ceil return a / n rounded down and up; n is above 0.
func floor(a, n int) int {
	q := a / n
	if q*n > a {
		q--
	}
	return q
}

func ceil(a, n int) int {
	q := a / n
	if q*n < a {
		q++
	}
	return q
}

// fast returns the L and the H of the document.
func fast(s api.WireSource, t int) api.Span {
	const part = 1000 * 86400
	after := t - s.At
	return span(floor(s.Error.Low*part+s.Drift.Low*after, part), ceil(s.Error.High*part+s.Drift.High*after, part))
}

// noon returns when the sun is at its noon of a day.
func noon(s api.WireSource, day int) int { return day*86400 + s.Table[day%len(s.Table)] }

// rightAt reports whether a note is right with a correction, error by error, as the document has it.
func rightAt(s api.WireSource, n api.WireNote, correction int) bool {
	t := n.Tick + correction
	if t < 0 || t > api.MaxTime {
		return false
	}
	switch s.Kind {
	case api.WireClock:
		f := fast(s, t)
		for e := f.Low; t >= s.At && e <= f.High && e < f.Low+43200; e++ {
			if (t+e+100*43200)%43200 == n.Said {
				return true
			}
		}
	case api.WireEvent:
		for e := s.Error.Low; e <= s.Error.High; e++ {
			if after := t - e - s.At; after >= 0 && after%s.Every == 0 {
				return true
			}
		}
	case api.WireSun:
		for day := max(0, t/86400-3); day <= t/86400+3; day++ {
			if e := t - noon(s, day); e >= s.Error.Low && e <= s.Error.High {
				return true
			}
		}
	case api.WireSignal:
		e := t - n.Said
		return e >= s.Error.Low && e <= s.Error.High
	}
	return false
}

// rights returns which sources are right with each correction.
func (q question) rights() [][]bool {
	var list [][]bool
	for c := q.near.Low; c <= q.near.High; c++ {
		right := slices.Repeat([]bool{true}, len(q.w))
		for _, n := range q.l {
			right[n.Source] = right[n.Source] && rightAt(q.w[n.Source], n, c)
		}
		list = append(list, right)
	}
	return list
}

// answer is what the document says about a question.
type answer struct {
	fits   []api.Span
	pairs  [][2]int
	most   int
	at     []api.Span
	wrong  [][]int
	guilty []int // all sources each of which explains all
}

// answer looks at all pairs, and at all sets of sources, one by one.
func (q question) answer() answer {
	rights := q.rights()
	var a answer
	a.fits = q.spansWith(rights, func(right []bool) bool { return !slices.Contains(right, false) })
	for i := range q.w {
		for j := i + 1; j < len(q.w); j++ {
			both := func(right []bool) bool { return right[i] && right[j] }
			if !slices.ContainsFunc(rights, both) {
				a.pairs = append(a.pairs, [2]int{i, j})
			}
		}
	}
	for _, right := range rights {
		a.most = max(a.most, count(right))
	}
	a.at = q.spansWith(rights, func(right []bool) bool { return count(right) == a.most })
	for size := 0; a.wrong == nil; size++ {
		a.wrong = q.setsThatExplain(rights, size)
	}
	for _, set := range q.setsThatExplain(rights, 1) {
		a.guilty = append(a.guilty, set...)
	}
	return a
}

func count(right []bool) int {
	n := 0
	for _, r := range right {
		if r {
			n++
		}
	}
	return n
}

// spansWith returns the corrections for which the sources that are right are as a condition says.
func (q question) spansWith(rights [][]bool, holds func([]bool) bool) []api.Span {
	var list []api.Span
	open := false
	for i, right := range rights {
		switch c := q.near.Low + i; {
		case !holds(right):
			open = false
		case open:
			list[len(list)-1].High = c
		default:
			list = append(list, single(c))
			open = true
		}
	}
	return list
}

// setsThatExplain returns the sets of a size without which all others are right with some correction, in order.
func (q question) setsThatExplain(rights [][]bool, size int) [][]int {
	var list [][]int
	for set := range subsets(len(q.w), size) {
		rest := func(right []bool) bool {
			for i, r := range right {
				if !r && !slices.Contains(set, i) {
					return false
				}
			}
			return true
		}
		if slices.ContainsFunc(rights, rest) {
			list = append(list, slices.Clone(set))
		}
	}
	return list
}

// subsets yields all lists of so many of the first n numbers, in order.
func subsets(n, size int) iter.Seq[[]int] {
	return func(yield func([]int) bool) {
		var grow func(list []int, from int) bool
		grow = func(list []int, from int) bool {
			if len(list) == size {
				return yield(list)
			}
			for i := from; i < n; i++ {
				if !grow(append(slices.Clone(list), i), i+1) {
					return false
				}
			}
			return true
		}
		grow(nil, 0)
	}
}

// fit reports whether all notes are right with some correction if the Error of a source is so much wider.
func (q question) fit(source, by int) bool {
	all := func(right []bool) bool { return !slices.Contains(right, false) }
	return slices.ContainsFunc(q.wider(source, by).rights(), all)
}

func seeded(seed uint64) *rand.Rand { return rand.New(rand.NewPCG(seed, 8)) }

// pick returns one of some integers.
func pick(r *rand.Rand, n ...int) int { return n[r.IntN(len(n))] }

// among returns an integer of a span.
func among(r *rand.Rand, s api.Span) int { return s.Low + r.IntN(s.High-s.Low+1) }

// part returns a span from -most to most that is at most as wide, and often at an end.
func part(r *rand.Rand, most, width int) api.Span {
	low := pick(r, 0, -most, most-width, -width/2, r.IntN(2*most)-most)
	return span(low, min(most, low+r.IntN(width+1)))
}

// scene is a time around which things happen, and how wide errors are at most.
type scene struct{ now, width int }

func randomScene(r *rand.Rand) scene {
	now := pick(r, 0, 40, 20000, 43200, 3*86400, 366*86400, r.IntN(api.MaxTime), api.MaxTime-43200, api.MaxTime-20, api.MaxTime)
	return scene{now, pick(r, 2, 5, 5, 9, 40)}
}

// bound returns a time that is as near as it can be.
func bound(t int) int { return max(0, min(api.MaxTime, t)) }

func (s scene) source(r *rand.Rand) api.WireSource {
	wrong := part(r, 3600, s.width)
	if r.IntN(3) > 0 {
		wrong = part(r, 20, s.width)
	}
	w := api.WireSource{Kind: api.WireKind(1 + r.IntN(4)), Error: wrong}
	switch w.Kind {
	case api.WireClock:
		w.At = bound(s.now - pick(r, -30, 0, 100, 86400, 1000000, api.MaxTime))
		w.Drift = part(r, 100000, pick(r, 1, 1000, 3000))
		if r.IntN(2) == 0 {
			w.Drift = part(r, 3000, pick(r, 1, 1000, 3000))
		}
	case api.WireEvent:
		w.At = bound(s.now - pick(r, -30, 0, 100, 86400, 1000000, api.MaxTime))
		w.Every = pick(r, 1, 7, 60, 60, 3600, 86400, 86400, 1+r.IntN(api.MaxTime), api.MaxTime)
	case api.WireSun:
		for range pick(r, 1, 2, 3, 366) {
			w.Table = append(w.Table, pick(r, -3600, -30, 0, 30, 3600, r.IntN(7201)-3600))
		}
	}
	return w
}

// time returns a true time at which a source says something, near now; what is said is right if the time is possible.
func (s scene) time(r *rand.Rand, w api.WireSource) int {
	wrong := among(r, w.Error)
	switch w.Kind {
	case api.WireClock:
		return max(w.At, s.now+r.IntN(101)-50)
	case api.WireEvent:
		return w.At + max(0, (s.now-w.At)/w.Every+r.IntN(3)-1)*w.Every + wrong
	case api.WireSun:
		return noon(w, max(0, s.now/86400+r.IntN(3)-1)) + wrong
	}
	return s.now + r.IntN(101) - 50
}

// note returns a note of a source that is right with a correction, and false if none was found.
func (s scene) note(r *rand.Rand, w api.WireSource, source, correction int) (api.WireNote, bool) {
	for range 20 {
		t := s.time(r, w)
		n := note(source, t-correction, 0)
		switch w.Kind {
		case api.WireClock:
			n.Said = (t + among(r, fast(w, t)) + 100*43200) % 43200
		case api.WireSignal:
			n.Said = t - among(r, w.Error)
		}
		if isNote(w, n) && rightAt(w, n, correction) {
			return n, true
		}
	}
	return api.WireNote{}, false
}

// isNote reports whether a note of a source has no error.
func isNote(w api.WireSource, n api.WireNote) bool {
	most := map[api.WireKind]int{api.WireClock: 43199, api.WireSignal: api.MaxTime}[w.Kind]
	return n.Tick >= 0 && n.Tick <= api.MaxTime && n.Said >= 0 && n.Said <= most
}

// changed returns a note that is most often wrong.
func changed(r *rand.Rand, w api.WireSource, n api.WireNote) api.WireNote {
	for {
		other := n
		if by := r.IntN(81) - 40; r.IntN(2) == 0 {
			other.Tick += by
		} else {
			other.Said += by
		}
		if isNote(w, other) {
			return other
		}
		if r.IntN(10) == 0 {
			return n
		}
	}
}

// trial is a question whose notes were made truly with a correction, and then changed for some sources.
type trial struct {
	question
	scene
	truth int
	liars []int
}

func randomTrial(r *rand.Rand, liars int) trial {
	s := randomScene(r)
	near := span(-r.IntN(60), r.IntN(60))
	if by := pick(r, 0, 0, 7200, -7200, r.IntN(14000)-7000); by != 0 {
		near = span(max(-7200, min(7100, near.Low+by)), min(7200, max(-7100, near.High+by)))
	}
	x := trial{question: question{near: near}, scene: s, truth: among(r, near)}
	for range 1 + r.IntN(6) {
		x.w = append(x.w, s.source(r))
	}
	for range r.IntN(10) {
		source := r.IntN(len(x.w))
		if n, ok := s.note(r, x.w[source], source, x.truth); ok {
			x.l = append(x.l, n)
		}
	}
	if most := min(liars, len(x.w)); most > 0 {
		x.liars = r.Perm(len(x.w))[:most]
	}
	for i, n := range x.l {
		if slices.Contains(x.liars, n.Source) {
			x.l[i] = changed(r, x.w[n.Source], n)
		}
	}
	return x
}

// trials yields so many random trials, with at most as many liars.
func trials(seed uint64, n, liars int) iter.Seq[trial] {
	return func(yield func(trial) bool) {
		r := seeded(seed)
		for range n {
			if !yield(randomTrial(r, r.IntN(liars+1))) {
				return
			}
		}
	}
}
