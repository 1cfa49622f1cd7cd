package beat_test

import (
	"iter"
	"math"
	"math/big"
	"math/rand/v2"
	"slices"
	"testing"

	"turret/api"
	"turret/beat"
)

func span(low, high int) api.Span { return api.Span{Low: low, High: high} }

func single(n int) api.Span { return span(n, n) }

func spans(s ...api.Span) []api.Span { return s }

func numbers(n ...int) []int { return n }

func down(length, low, high int) api.BeatRod {
	return api.BeatRod{Length: length, Grow: span(low, high)}
}

func up(length, low, high int) api.BeatRod {
	return api.BeatRod{Length: length, Grow: span(low, high), Up: true}
}

func rods(r ...api.BeatRod) []api.BeatRod { return r }

// steel is the clock of the chapter's examples.
func steel() api.BeatClock {
	return api.BeatClock{Kind: api.BeatRecoil, Rods: rods(down(9940, 1100, 1200)), Air: span(-5, -3), Drive: span(0, 20)}
}

// withRods returns the clock of the examples with other rods.
func withRods(r ...api.BeatRod) api.BeatClock {
	c := steel()
	c.Rods = r
	return c
}

// zinc is the clock of the example 5.
func zinc() api.BeatClock { return withRods(down(13940, 1100, 1200), up(4000, 2900, 3100)) }

// driven returns the clock of the examples with another escapement.
func driven(kind api.BeatKind, drive api.Span) api.BeatClock {
	c := steel()
	c.Kind, c.Drive = kind, drive
	return c
}

func based(c api.BeatClock, base int) api.BeatClock {
	c.Base = base
	return c
}

func aired(c api.BeatClock, air api.Span) api.BeatClock {
	c.Air = air
	return c
}

func bounds(heat, press, arc, force api.Span) api.BeatBounds {
	return api.BeatBounds{Heat: heat, Press: press, Arc: arc, Force: force}
}

// calm are the bounds in which all is 0.
func calm() api.BeatBounds { return api.BeatBounds{} }

func warm(heat api.Span) api.BeatBounds { return api.BeatBounds{Heat: heat} }

func wide(arc api.Span) api.BeatBounds { return api.BeatBounds{Arc: arc} }

func pressed(press api.Span) api.BeatBounds { return api.BeatBounds{Press: press} }

func forced(force api.Span) api.BeatBounds { return api.BeatBounds{Force: force} }

// widest are the widest bounds that are valid.
func widest() api.BeatBounds {
	return bounds(span(-1000, 1000), span(-1000, 1000), span(0, 600), span(-100, 100))
}

func truth(grow []int, air, drive, heat, press, arc, force int) api.BeatTruth {
	return api.BeatTruth{Grow: grow, Air: air, Drive: drive, Heat: heat, Press: press, Arc: arc, Force: force}
}

// listOf returns a truth as the list as which truths are compared.
func listOf(t api.BeatTruth) []int {
	return append(slices.Clone(t.Grow), t.Air, t.Drive, t.Heat, t.Press, t.Arc, t.Force)
}

func truthOf(list []int) api.BeatTruth {
	i := len(list) - 6
	return truth(slices.Clone(list[:i]), list[i], list[i+1], list[i+2], list[i+3], list[i+4], list[i+5])
}

// spansOf returns the spans of all unknowns, in the order of the list of a truth.
func spansOf(c api.BeatClock, b api.BeatBounds) []api.Span {
	var list []api.Span
	for _, r := range c.Rods {
		list = append(list, r.Grow)
	}
	return append(list, c.Air, c.Drive, b.Heat, b.Press, b.Arc, b.Force)
}

// withSpans returns a clock and bounds with other spans of the unknowns.
func withSpans(c api.BeatClock, s []api.Span) (api.BeatClock, api.BeatBounds) {
	c.Rods = slices.Clone(c.Rods)
	for i := range c.Rods {
		c.Rods[i].Grow = s[i]
	}
	s = s[len(c.Rods):]
	c.Air, c.Drive = s[0], s[1]
	return c, bounds(s[2], s[3], s[4], s[5])
}

func signed(r api.BeatRod) int {
	if r.Up {
		return -r.Length
	}
	return r.Length
}

// growthOf returns the S of the document.
func growthOf(c api.BeatClock, grow []int) int {
	sum := 0
	for i, r := range c.Rods {
		sum += signed(r) * grow[i]
	}
	return sum
}

func lengthOf(c api.BeatClock) int {
	sum := 0
	for _, r := range c.Rods {
		sum += signed(r)
	}
	return sum
}

func whole(n int) *big.Rat { return big.NewRat(int64(n), 1) }

func times(n ...int) *big.Rat {
	product := whole(1)
	for _, x := range n {
		product.Mul(product, whole(x))
	}
	return product
}

// rateOf returns the rate of a clock in a truth, term by term as the document has it.
func rateOf(c api.BeatClock, t api.BeatTruth) *big.Rat {
	rate := whole(c.Base)
	warmth := times(432, growthOf(c, t.Grow), t.Heat)
	rate.Sub(rate, warmth.Quo(warmth, times(10000, lengthOf(c))))
	rate.Add(rate, times(t.Air, t.Press))
	swing := times(457, t.Arc, t.Arc)
	rate.Sub(rate, swing.Quo(swing, whole(1000)))
	return rate.Add(rate, times(t.Drive, t.Force))
}

func rational(r api.Ratio) *big.Rat { return big.NewRat(int64(r.Num), int64(r.Den)) }

func roundedDown(r *big.Rat) int {
	// The denominator is above 0, so Div rounds down.
	return int(new(big.Int).Div(r.Num(), r.Denom()).Int64())
}

func roundedUp(r *big.Rat) int { return -roundedDown(new(big.Rat).Neg(r)) }

// picks yields all lists with an integer of each list, the smaller ones first if these ascend. The lists share memory.
func picks(from [][]int) iter.Seq[[]int] {
	return func(yield func([]int) bool) {
		list := make([]int, len(from))
		var pick func(i int) bool
		pick = func(i int) bool {
			if i == len(from) {
				return yield(list)
			}
			for _, n := range from[i] {
				list[i] = n
				if !pick(i + 1) {
					return false
				}
			}
			return true
		}
		pick(0)
	}
}

func allOf(s api.Span) []int {
	var list []int
	for n := s.Low; n <= s.High; n++ {
		list = append(list, n)
	}
	return list
}

func endsOf(s api.Span) []int { return slices.Compact(numbers(s.Low, s.High)) }

// truths yields all truths of a clock within bounds, the smaller ones first, or those alone that take of each span what choose returns.
func truths(c api.BeatClock, b api.BeatBounds, choose func(api.Span) []int) iter.Seq[api.BeatTruth] {
	var from [][]int
	for _, s := range spansOf(c, b) {
		from = append(from, choose(s))
	}
	return func(yield func(api.BeatTruth) bool) {
		for list := range picks(from) {
			if !yield(truthOf(list)) {
				return
			}
		}
	}
}

// extremes are the least and the greatest rate of some truths, and the first truths with them.
type extremes struct {
	least, greatest *big.Rat
	low, high       api.BeatTruth
}

func extremesOf(c api.BeatClock, list iter.Seq[api.BeatTruth]) extremes {
	var x extremes
	for t := range list {
		r := rateOf(c, t)
		if x.least == nil || r.Cmp(x.least) < 0 {
			x.least, x.low = r, t
		}
		if x.greatest == nil || r.Cmp(x.greatest) > 0 {
			x.greatest, x.high = r, t
		}
	}
	return x
}

func sameTruth(a, b api.BeatTruth) bool { return slices.Equal(listOf(a), listOf(b)) }

func isZeroTruth(t api.BeatTruth) bool {
	return len(t.Grow) == 0 && sameTruth(t, api.BeatTruth{})
}

// setting is a clock and bounds, which are valid.
type setting struct {
	clock  api.BeatClock
	bounds api.BeatBounds
}

// size is how great random settings are: how many rods there are, how many steps of some length they can have, how wide spans are, and how far from 0 they begin.
type size struct{ rods, steps, step, width, far int }

func seeded(seed uint64) *rand.Rand { return rand.New(rand.NewPCG(seed, 3)) }

// randomSpan returns a span within another one, and with integers that are not too far from 0.
func randomSpan(r *rand.Rand, s size, within api.Span) api.Span {
	low, high := max(within.Low, -s.far), min(within.High, s.far)
	a := low + r.IntN(high-low+1)
	return span(a, min(high, a+r.IntN(s.width+1)))
}

// randomDrive returns what a kind can have.
func randomDrive(r *rand.Rand, s size, kind api.BeatKind) api.Span {
	switch kind {
	case api.BeatGravity:
		return single(0)
	case api.BeatRecoil:
		return randomSpan(r, s, span(0, 1000))
	}
	return randomSpan(r, s, span(-1000, 1000))
}

func randomRods(r *rand.Rand, s size) []api.BeatRod {
	list := make([]api.BeatRod, 1+r.IntN(s.rods))
	for {
		for i := range list {
			list[i] = api.BeatRod{Length: s.step * (1 + r.IntN(s.steps)), Grow: randomSpan(r, s, span(0, 40000)), Up: r.IntN(2) == 0}
		}
		if n := lengthOf(api.BeatClock{Rods: list}); n >= 100 && n <= 100000 {
			return list
		}
	}
}

func randomBounds(r *rand.Rand, s size) api.BeatBounds {
	w := widest()
	return bounds(randomSpan(r, s, w.Heat), randomSpan(r, s, w.Press), randomSpan(r, s, w.Arc), randomSpan(r, s, w.Force))
}

func randomSetting(r *rand.Rand, s size) setting {
	kind := api.BeatKind(1 + r.IntN(3))
	c := api.BeatClock{Kind: kind, Base: r.IntN(2000001) - 1000000, Rods: randomRods(r, s)}
	c.Air = randomSpan(r, s, span(-100, 100))
	c.Drive = randomDrive(r, s, kind)
	return setting{c, randomBounds(r, s)}
}

// settings yields random settings.
func settings(seed uint64, n int, s size) iter.Seq[setting] {
	return func(yield func(setting) bool) {
		r := seeded(seed)
		for range n {
			if !yield(randomSetting(r, s)) {
				return
			}
		}
	}
}

// few have so few truths that all can be tried, and often rates that are equal; many have as many as there can be.
func few() size { return size{rods: 3, steps: 3, step: 100, width: 2, far: 3} }

func many() size { return size{rods: 4, steps: 60000, step: 1, width: 100000, far: 100000} }

// truth returns a random truth of a setting.
func (s setting) truth(r *rand.Rand) api.BeatTruth {
	var list []int
	for _, s := range spansOf(s.clock, s.bounds) {
		list = append(list, s.Low+r.IntN(s.High-s.Low+1))
	}
	return truthOf(list)
}

// badBounds are bounds of which at least one is not valid.
func badBounds() []api.BeatBounds {
	list := []api.BeatBounds{bounds(span(2, 1), span(-1001, 0), span(-1, 700), span(101, 99))}
	for _, s := range badSpans(-1000, 1000) {
		list = append(list, warm(s), pressed(s))
	}
	for _, s := range badSpans(0, 600) {
		list = append(list, wide(s))
	}
	for _, s := range badSpans(-100, 100) {
		list = append(list, forced(s))
	}
	return list
}

// wild are integers that nothing allows.
func wild() []int { return numbers(-1000001, 1000001, math.MinInt, math.MaxInt) }

// badSpans are spans that are not valid from least to most.
func badSpans(least, most int) []api.Span {
	list := spans(span(least+1, least), span(most, most-1), span(least-1, least), span(least-1, most), single(least-1), span(least, most+1), single(most+1), span(most, most+1), span(math.MaxInt, math.MinInt))
	for _, n := range wild() {
		list = append(list, single(n), span(min(n, least), max(n, most)))
	}
	return list
}

// badClocks are clocks that do not have too many rods, and are not valid.
func badClocks() []api.BeatClock {
	list := []api.BeatClock{{}, withRods(), withRods(down(99, 1, 2)), withRods(down(100000, 1, 2), down(1, 1, 2)), withRods(down(200, 1, 2), up(101, 1, 2)), withRods(up(200, 1, 2)), withRods(down(100, 1, 2), up(100, 1, 2))}
	for _, n := range append(wild(), 0, -1, 4, -2) {
		list = append(list, driven(api.BeatKind(n), single(0)))
	}
	for _, n := range wild() {
		list = append(list, based(steel(), n))
	}
	for _, n := range append(wild(), 0, -1, 100001) {
		list = append(list, withRods(down(n, 1, 2)), withRods(down(500, 1, 2), down(n, 1, 2)), withRods(down(500, 1, 2), up(n, 1, 2)), withRods(down(n, 1, 2), up(n-500, 1, 2)))
	}
	for _, s := range badSpans(0, 40000) {
		r := api.BeatRod{Length: 500, Grow: s}
		list = append(list, withRods(r), withRods(down(500, 1, 2), r), withRods(r, down(500, 1, 2)))
	}
	for _, s := range badSpans(-100, 100) {
		list = append(list, aired(steel(), s))
	}
	return append(list, badDrives()...)
}

// badDrives are clocks with a drive that their kind cannot have.
func badDrives() []api.BeatClock {
	list := []api.BeatClock{driven(api.BeatRecoil, span(-1, 20)), driven(api.BeatRecoil, span(-2, -1)), driven(api.BeatRecoil, span(-1, 0)), driven(api.BeatRecoil, span(-1000, 1000))}
	for _, s := range spans(span(-1, 0), span(0, 1), span(-1, 1), single(1), single(-1), span(-1000, 1000), span(1, 0), span(0, -1)) {
		list = append(list, driven(api.BeatGravity, s))
	}
	for _, s := range badSpans(-1000, 1000) {
		list = append(list, driven(api.BeatRest, s), driven(api.BeatRecoil, s), driven(api.BeatGravity, s))
	}
	return append(list, driven(api.BeatRecoil, span(0, 1001)), driven(api.BeatRecoil, single(1001)), driven(api.BeatRecoil, span(1, 0)))
}

// longClocks have too many rods, with other errors among them.
func longClocks() []api.BeatClock {
	many := func(n int, r api.BeatRod) api.BeatClock { return withRods(slices.Repeat(rods(r), n)...) }
	list := []api.BeatClock{many(9, down(100, 1, 2)), many(100, down(100, 1, 2)), many(9, down(0, 1, 2)), many(9, down(100, 2, 1)), many(9, up(100, 1, 2)), many(9, down(math.MaxInt, -1, 50000))}
	return append(list, based(many(9, down(100, 1, 2)), 1000001), api.BeatClock{Rods: make([]api.BeatRod, 9)})
}

// expectErrors fails unless all functions but Check return that error alone.
func expectErrors(t *testing.T, c api.BeatClock, x api.BeatTruth, b api.BeatBounds, rod int, want api.Errno) {
	t.Helper()
	expectExactError(t, c, x, want)
	expectBoundsError(t, c, b, want)
	expectChangeError(t, c, b, b, want)
	expectBalanceError(t, c, rod, want)
}

// expectBoundsError fails unless the functions of bounds return that error alone.
func expectBoundsError(t *testing.T, c api.BeatClock, b api.BeatBounds, want api.Errno) {
	t.Helper()
	if s, e := beat.Rate(c, b); s != (api.Span{}) || e != want {
		t.Errorf("Rate(%v, %v) = %v, %v; want the error %v", c, b, s, e, want)
	}
	if low, high, e := beat.Ends(c, b); !isZeroTruth(low) || !isZeroTruth(high) || e != want {
		t.Errorf("Ends(%v, %v) = %v, %v, %v; want the error %v", c, b, low, high, e, want)
	}
}

func expectExact(t *testing.T, c api.BeatClock, x api.BeatTruth, want api.Ratio) {
	t.Helper()
	if r, e := beat.Exact(c, x); r != want || e != api.OK {
		t.Errorf("Exact(%v, %v) = %v, %v; want %v", c, x, r, e, want)
	}
}

func expectExactError(t *testing.T, c api.BeatClock, x api.BeatTruth, want api.Errno) {
	t.Helper()
	if r, e := beat.Exact(c, x); r != (api.Ratio{}) || e != want {
		t.Errorf("Exact(%v, %v) = %v, %v; want the error %v", c, x, r, e, want)
	}
}

func expectRate(t *testing.T, c api.BeatClock, b api.BeatBounds, want api.Span) {
	t.Helper()
	if s, e := beat.Rate(c, b); s != want || e != api.OK {
		t.Errorf("Rate(%v, %v) = %v, %v; want %v", c, b, s, e, want)
	}
}

func expectEnds(t *testing.T, c api.BeatClock, b api.BeatBounds, low, high api.BeatTruth) {
	t.Helper()
	l, h, e := beat.Ends(c, b)
	if !sameTruth(l, low) || !sameTruth(h, high) || e != api.OK {
		t.Errorf("Ends(%v, %v) = %v, %v, %v; want %v, %v", c, b, l, h, e, low, high)
	}
}

func expectChange(t *testing.T, c api.BeatClock, from, to api.BeatBounds, want api.Span) {
	t.Helper()
	if s, e := beat.Change(c, from, to); s != want || e != api.OK {
		t.Errorf("Change(%v, %v, %v) = %v, %v; want %v", c, from, to, s, e, want)
	}
}

func expectChangeError(t *testing.T, c api.BeatClock, from, to api.BeatBounds, want api.Errno) {
	t.Helper()
	if s, e := beat.Change(c, from, to); s != (api.Span{}) || e != want {
		t.Errorf("Change(%v, %v, %v) = %v, %v; want the error %v", c, from, to, s, e, want)
	}
}

func expectBalance(t *testing.T, c api.BeatClock, rod, length, worst int) {
	t.Helper()
	if l, w, e := beat.Balance(c, rod); l != length || w != worst || e != api.OK {
		t.Errorf("Balance(%v, %d) = %d, %d, %v; want %d, %d", c, rod, l, w, e, length, worst)
	}
}

func expectBalanceError(t *testing.T, c api.BeatClock, rod int, want api.Errno) {
	t.Helper()
	if l, w, e := beat.Balance(c, rod); l != 0 || w != 0 || e != want {
		t.Errorf("Balance(%v, %d) = %d, %d, %v; want the error %v", c, rod, l, w, e, want)
	}
}
