package wire_test

import (
	"slices"
	"testing"

	"turret/api"
)

// P8.9

func TestTheTruthIsThere(t *testing.T) {
	seen := 0
	for x := range trials(50, 4000, 0) {
		fits, e := x.fits()
		if e != api.OK || !has(fits, x.truth) {
			t.Fatalf("Fits(%v) = %v, %v without %d", x.question, fits, e, x.truth)
		}
		expectPairs(t, x.question)
		expectMost(t, x.question, len(x.w), fits...)
		expectWrong(t, x.question, numbers())
		expectConvictError(t, x.question, api.ErrNone)
		for source := range x.w {
			expectStretch(t, x.question, source, 0)
		}
		if t.Failed() {
			t.FailNow()
		}
		seen += len(x.l)
	}
	if seen < 10000 {
		t.Errorf("only %d notes were made", seen)
	}
}

// P8.10

func TestTheLiar(t *testing.T) {
	verdicts := map[api.Errno]int{}
	for x := range trials(51, 8000, 1) {
		if len(x.liars) == 0 {
			continue
		}
		liar := x.liars[0]
		wrong, e := x.wrong()
		if e != api.OK || !sameSets(wrong, [][]int{{}}) && !isSuspected(wrong, liar) {
			t.Fatalf("Wrong(%v) = %v, %v; the source %d lies", x.question, wrong, e, liar)
		}
		source, e := x.convict()
		verdicts[e]++
		switch {
		case e == api.OK && source == liar:
		case e == api.ErrNone, e == api.ErrTwice:
		default:
			t.Fatalf("Convict(%v) = %d, %v; the source %d lies", x.question, source, e, liar)
		}
	}
	for _, e := range []api.Errno{api.OK, api.ErrNone, api.ErrTwice} {
		if verdicts[e] < 100 {
			t.Errorf("only %d verdicts are %v", verdicts[e], e)
		}
	}
}

// isSuspected reports whether sets have one element each, and one of them is the source.
func isSuspected(sets [][]int, source int) bool {
	other := func(set []int) bool { return len(set) != 1 }
	isIt := func(set []int) bool { return slices.Equal(set, numbers(source)) }
	return !slices.ContainsFunc(sets, other) && slices.ContainsFunc(sets, isIt)
}
