package drop_test

import (
	"testing"

	"turret/api"
	"turret/drop"
)

func rig(depth, days, pull, limit int, hours []api.Span) api.DropRig {
	return api.DropRig{Depth: depth, Days: days, Pull: pull, Limit: limit, Hours: hours}
}

func expectRig(t *testing.T, r api.DropRig, parts, line int) {
	t.Helper()
	if p, l, e := drop.Rig(r); e != api.OK || p != parts || l != line {
		t.Errorf("Rig(%v) = %d, %d, %v; want %d, %d", r, p, l, e, parts, line)
	}
}

func expectRigError(t *testing.T, r api.DropRig, e api.Errno) {
	t.Helper()
	if p, l, f := drop.Rig(r); f != e || p != 0 || l != 0 {
		t.Errorf("Rig(%v) = %d, %d, %v; want the error %v", r, p, l, f, e)
	}
}

// P2.2

func TestRig(t *testing.T) {
	hours := exampleClock().Hours
	expectRig(t, rig(40, 2, 30, 100, hours), 3, 120)
	expectRigError(t, rig(40, 2, 30, 89, hours), api.ErrNone)
	expectRig(t, rig(40, 2, 30, 90, hours), 3, 120)
	// Just enough line, and one centimetre too little.
	expectRig(t, rig(49, 2, 30, 100, hours), 2, 98)
	expectRig(t, rig(48, 2, 30, 100, hours), 3, 144)
	expectRig(t, rig(98, 2, 30, 30, hours), 1, 98)
	expectRigError(t, rig(97, 2, 30, 59, hours), api.ErrNone)
	expectRig(t, rig(97, 2, 30, 60, hours), 2, 194)
	// It is the most that can be used that counts, hour by hour.
	expectRig(t, rig(10, 1, 1, 100, with(with(each(span(0, 0)), 0, span(0, 10)), 23, span(1, 15))), 3, 30)
	// Nothing is used.
	expectRig(t, rig(1, 3000, 1, 1, each(span(0, 0))), 1, 1)
	expectRigError(t, rig(1, 1, 2, 1, each(span(0, 0))), api.ErrNone)
}

func TestRigLimits(t *testing.T) {
	hours := each(span(1, 1))
	// Eight parts, and nine.
	expectRig(t, rig(3, 1, 1, 8, hours), 8, 24)
	expectRig(t, rig(6, 2, 1, 8, hours), 8, 48)
	expectRigError(t, rig(5, 2, 1, 3000, hours), api.ErrNone)
	expectRigError(t, rig(2, 1, 1, 3000, hours), api.ErrNone)
	// The line is as long as it may be, and longer.
	expectRig(t, rig(3000, 125, 1, 1, hours), 1, 3000)
	expectRig(t, rig(375, 125, 375, 3000, hours), 8, 3000)
	expectRig(t, rig(1500, 120, 1, 2, hours), 2, 3000)
	expectRigError(t, rig(1501, 125, 1, 2, hours), api.ErrNone)
	expectRigError(t, rig(3000, 126, 1, 3000, hours), api.ErrNone)
	expectRigError(t, rig(1, 1, 3000, 3000, hours), api.ErrNone)
	expectRig(t, rig(24, 1, 3000, 3000, hours), 1, 24)
	expectRigError(t, rig(3000, 3000, 1, 3000, each(span(0, 3000))), api.ErrNone)
}

func TestRigErrors(t *testing.T) {
	hours := each(span(1, 1))
	for _, n := range append(wild(), 0, 3001) {
		for _, h := range [][]api.Span{hours, each(span(0, 3000)), nil} {
			expectRigError(t, rig(n, 1, 1, 100, h), api.ErrArg)
			expectRigError(t, rig(100, n, 1, 100, h), api.ErrArg)
			expectRigError(t, rig(100, 1, n, 100, h), api.ErrArg)
			expectRigError(t, rig(100, 1, 1, n, h), api.ErrArg)
			expectRigError(t, rig(n, n, n, n, h), api.ErrArg)
		}
	}
	for _, c := range badClocks() {
		if c.Line == 100 {
			expectRigError(t, rig(100, 1, 1, 100, c.Hours), api.ErrArg)
			expectRigError(t, rig(100, 1, 1, 0, c.Hours), api.ErrArg)
		}
	}
}

// P2.13

func TestRigGoesForAllDays(t *testing.T) {
	r := seeded(13)
	for range 2000 {
		s := randomSetting(r, many())
		one := rig(1+r.IntN(150), 1+r.IntN(20), 1+r.IntN(20), 1+r.IntN(120), s.clock.Hours)
		parts, line, e := drop.Rig(one)
		if e != api.OK {
			expectNoParts(t, one)
			continue
		}
		if parts < 1 || parts > 8 || line != parts*one.Depth || line > 3000 || parts*one.Pull > one.Limit || !goesFor(t, one, line) {
			t.Errorf("Rig(%v) = %d, %d", one, parts, line)
		}
		if parts > 1 && goesFor(t, one, line-one.Depth) {
			t.Errorf("Rig(%v) = %d, %d, but one part less is enough", one, parts, line)
		}
	}
}

// goesFor reports whether, from the top of that line, the clock goes for all days of a rig in all truths.
func goesFor(t *testing.T, r api.DropRig, line int) bool {
	t.Helper()
	until := 24 * r.Days
	stops, e := drop.Stops(clock(line, r.Hours), line, nil, until)
	if e != api.OK {
		t.Fatalf("%v with the line %d: %v", r, line, e)
	}
	goes, e := drop.Goes(clock(line, r.Hours), line, 0)
	if e != api.OK || (goes.Low >= until) != (stops.Low == until) {
		t.Errorf("%v with the line %d: Goes returns %v, %v, and Stops %v", r, line, goes, e, stops)
	}
	return stops.Low == until
}

// expectNoParts fails if some parts that are allowed are enough.
func expectNoParts(t *testing.T, r api.DropRig) {
	t.Helper()
	for parts := 1; parts <= 8; parts++ {
		line := parts * r.Depth
		if line <= 3000 && parts*r.Pull <= r.Limit && goesFor(t, r, line) {
			t.Errorf("%v: no parts, but %d are enough", r, parts)
		}
	}
}
