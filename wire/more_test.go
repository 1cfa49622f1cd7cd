package wire_test

import (
	"math/rand/v2"
	"reflect"
	"slices"
	"testing"

	"turret/api"
)

// P8.11

func TestMoreNotes(t *testing.T) {
	fewer, more := 0, 0
	for x := range trials(60, 3000, 3) {
		if len(x.l) == 0 {
			continue
		}
		before := x.question
		before.l = x.l[:len(x.l)-1]
		could, _ := before.fits()
		can, _ := x.fits()
		if !isPart(can, could) {
			t.Fatalf("%v: with the last note the corrections are %v, and not part of %v", x.question, can, could)
		}
		were, _ := before.pairs()
		are, _ := x.pairs()
		lost := func(p [2]int) bool { return !slices.Contains(are, p) }
		if slices.ContainsFunc(were, lost) {
			t.Fatalf("%v: with the last note the pairs are %v, without some of %v", x.question, are, were)
		}
		small, _ := before.wrong()
		great, _ := x.wrong()
		if len(great[0]) < len(small[0]) {
			t.Fatalf("%v: with the last note the sets are %v, before they were %v", x.question, great, small)
		}
		if !slices.Equal(can, could) {
			fewer++
		}
		if len(great[0]) > len(small[0]) {
			more++
		}
	}
	if fewer < 500 || more < 200 {
		t.Errorf("only %d notes left fewer corrections, and %d greater sets", fewer, more)
	}
}

func TestOneNoteMore(t *testing.T) {
	q := town(40)
	expectFits(t, q.without(0, 2), span(100, 103))
	expectFits(t, q.without(2), span(100, 101))
	expectFits(t, q)
	expectPairs(t, q.and(note(0, 3400, 0)), [2]int{0, 1}, [2]int{0, 2}, [2]int{1, 2})
	expectWrong(t, q.and(note(0, 3400, 0)), numbers(0, 1), numbers(0, 2))
	expectWrong(t, q.and(note(1, 7000, 7134)), numbers(0, 1), numbers(1, 2))
}

// P8.13

func TestALaterCounter(t *testing.T) {
	r := seeded(70)
	for x := range trials(71, 3000, 3) {
		by := laterBy(r, x.question)
		q := x.later(by)
		at, e := x.fits()
		later, f := q.fits()
		if !slices.Equal(shifted(at, -by), later) || e != f {
			t.Fatalf("Fits(%v) = %v, %v; with ticks greater by %d %v, %v", x.question, at, e, by, later, f)
		}
		most, at, _ := x.most()
		now, later, _ := q.most()
		if most != now || !slices.Equal(shifted(at, -by), later) {
			t.Fatalf("Most(%v) = %d, %v; with ticks greater by %d %d, %v", x.question, most, at, by, now, later)
		}
		if a, b := verdicts(x.question), verdicts(q); !reflect.DeepEqual(a, b) {
			t.Fatalf("of %v: %v; with ticks greater by %d %v", x.question, a, by, b)
		}
	}
}

// laterBy returns by how much all ticks can be greater.
func laterBy(r *rand.Rand, q question) int {
	allowed := span(q.near.High-7200, q.near.Low+7200)
	for _, n := range q.l {
		allowed.Low, allowed.High = max(allowed.Low, -n.Tick), min(allowed.High, api.MaxTime-n.Tick)
	}
	return pick(r, allowed.Low, allowed.High, among(r, allowed))
}

// verdicts returns all that is said about a question, but for the corrections.
func verdicts(q question) []any {
	pairs, a := q.pairs()
	wrong, b := q.wrong()
	source, c := q.convict()
	all := []any{pairs, a, wrong, b, source, c}
	for n := range q.w {
		by, e := q.stretch(n)
		all = append(all, by, e)
	}
	return all
}

func TestExamplesLater(t *testing.T) {
	for _, by := range numbers(-3500, -100, 0, 1, 100, 7000) {
		near := span(0-by, 200-by)
		if by == 7000 {
			near = span(-7000, -6800)
		}
		expectFits(t, town(2).later(by).around(near), span(100-by, 101-by))
		expectMost(t, town(40).without(0).later(by), 2, span(100-by, 103-by), span(136-by, 141-by))
		expectWrong(t, town(40).later(by), numbers(2))
		expectConvict(t, town(40).later(by), 2)
		expectStretch(t, town(40).later(by), 2, 35)
	}
}
