package dial_test

import (
	"math/rand/v2"
	"slices"
	"testing"

	"turret/api"
	"turret/dial"
)

// P4.11

// narrower returns a span within another one.
func narrower(r *rand.Rand, s api.Span) api.Span {
	low := s.Low + r.IntN(s.High-s.Low+1)
	return span(low, low+r.IntN(s.High-low+1))
}

// better returns works of which more is known.
func better(r *rand.Rand, w api.DialWorks) api.DialWorks {
	w.Error = narrower(r, w.Error)
	w.Faces = slices.Clone(w.Faces)
	for i := range w.Faces {
		w.Faces[i].Set = narrower(r, w.Faces[i].Set)
	}
	return w
}

func TestKnownBetter(t *testing.T) {
	r := seeded(20)
	for _, size := range []size{few(), many()} {
		for s := range settings(21, 300, size) {
			w, wind := better(r, s.works), narrower(r, s.wind)
			before, _ := dial.Off(s.works, s.face, s.at, s.wind)
			after, e := dial.Off(w, s.face, s.at, wind)
			if e != api.OK || after.Low < before.Low || after.High > before.High {
				t.Fatalf("%v: known better, it is off by %v, %v, not within %v", s, after, e, before)
			}
			could, _ := dial.Shows(s.works, s.face, s.at, s.wind)
			can, _ := dial.Shows(w, s.face, s.at, wind)
			if !isPart(can, could) {
				t.Fatalf("%v: known better, it shows %v, not part of %v", s, can, could)
			}
		}
	}
}

func TestNoPairIsLost(t *testing.T) {
	r := seeded(22)
	for _, size := range []size{few(), many()} {
		for o, _ := range observations(23, 200, size) {
			w, wind := better(r, o.works), narrower(r, o.wind)
			before, _ := dial.Pairs(o.works, o.readings, o.near, o.wind)
			after, e := dial.Pairs(w, o.readings, o.near, wind)
			lost := func(p [2]int) bool { return !slices.Contains(after, p) }
			if e != api.OK || slices.ContainsFunc(before, lost) {
				t.Fatalf("%v: known better, the pairs are %v, %v, without some of %v", o, after, e, before)
			}
			could, _ := dial.Times(o.works, o.readings, o.near, o.wind)
			can, _ := dial.Times(w, o.readings, o.near, wind)
			if !isPart(can, could) {
				t.Fatalf("%v: known better, the times are %v, not part of %v", o, can, could)
			}
		}
	}
}

func TestALinkLess(t *testing.T) {
	for _, size := range []size{few(), many()} {
		for s := range settings(24, 300, size) {
			before, _ := dial.Off(s.works, s.face, s.at, s.wind)
			f := &s.works.Faces[s.face]
			for i := range f.Links {
				all := f.Links
				f.Links = slices.Concat(all[:i], all[i+1:])
				after, e := dial.Off(s.works, s.face, s.at, s.wind)
				if e != api.OK || after.Low < before.Low || after.High < before.High {
					t.Fatalf("%v: without the link %d of %v it is off by %v, %v; with it by %v", s, i, all, after, e, before)
				}
				f.Links = all
			}
		}
	}
}
