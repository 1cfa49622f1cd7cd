package chime_test

import (
	"math/rand/v2"
	"slices"
	"testing"

	"turret/api"
	"turret/chime"
)

func tunes(l ...api.ChimeTune) []api.ChimeTune { return l }

// pinnedOf makes works from what each tune needs.
func pinnedOf(l []api.ChimeTune, rest int) api.ChimeWorks {
	c := api.ChimeWorks{Steps: l[0].Steps, Sections: 1, Runs: numbers(1), Tunes: len(l)}
	most, first := [16]int{}, [16]int{}
	for _, u := range l {
		hammers, _ := fewestByBell(u, rest)
		for bell := range 16 {
			of := func(h api.ChimeHammer) bool { return h.Bell != bell }
			most[bell] = max(most[bell], len(slices.DeleteFunc(slices.Clone(hammers), of)))
		}
	}
	for bell, many := range most {
		first[bell] = len(c.Hammers)
		c.Hammers = append(c.Hammers, same(bell, rest, many)...)
	}
	for n, u := range l {
		hammers, use := fewestByBell(u, rest)
		for i, b := range u.Blows {
			own := use[i] - slices.IndexFunc(hammers, func(h api.ChimeHammer) bool { return h.Bell == b.Bell })
			c.Pins = append(c.Pins, pin((first[b.Bell]+own)*len(l)+n, b.At))
		}
	}
	return c
}

// randomTunes returns tunes for the same barrel.
func randomTunes(x *rand.Rand, most int) []api.ChimeTune {
	steps := 1 + x.IntN(24)
	var l []api.ChimeTune
	for range 1 + x.IntN(most) {
		l = append(l, randomTune(x, steps, 20))
	}
	return l
}

// P6.7

func TestPin(t *testing.T) {
	u := rings(10, 5, 0, 2, 4, 6, 8)
	c := api.ChimeWorks{Steps: 10, Sections: 1, Runs: numbers(1), Tunes: 1, Hammers: same(5, 3, 3)}
	c.Pins = pins(pin(0, 0), pin(1, 2), pin(0, 4), pin(1, 6), pin(2, 8))
	expectPin(t, tunes(u), 3, c)
	// Another tune uses the same hammers, and its blows stand in its own order.
	other := tune(10, blow(7, 9), blow(9, 5), blow(0, 2), blow(8, 5), blow(8, 7), blow(4, 5))
	c.Tunes, c.Hammers = 2, append(append(same(2, 3, 1), same(5, 3, 3)...), hammer(7, 3), hammer(9, 3))
	c.Pins = pins(pin(2, 0), pin(4, 2), pin(2, 4), pin(4, 6), pin(6, 8), pin(11, 7), pin(3, 9), pin(1, 0), pin(5, 8), pin(9, 8), pin(3, 4))
	expectPin(t, tunes(u, other), 3, c)
	c.Pins = pins(pin(10, 7), pin(2, 9), pin(0, 0), pin(4, 8), pin(8, 8), pin(2, 4), pin(3, 0), pin(5, 2), pin(3, 4), pin(5, 6), pin(7, 8))
	expectPin(t, tunes(other, u), 3, c)
}

// Tunes without blows have no pins, but their tracks.
func TestPinTunesWithoutBlows(t *testing.T) {
	u := rings(10, 5, 3, 4)
	c := api.ChimeWorks{Steps: 10, Sections: 1, Runs: numbers(1), Tunes: 3, Hammers: same(5, 2, 2)}
	c.Pins = pins(pin(0, 3), pin(3, 4))
	expectPin(t, tunes(u, tune(10), tune(10)), 2, c)
	c.Pins = pins(pin(2, 3), pin(5, 4))
	expectPin(t, tunes(tune(10), tune(10), u), 2, c)
	expectPin(t, tunes(rings(1, 0, 0)), 1, oneTrack(1, 1, 1, 0))
	expectPin(t, tunes(rings(1, 0, 0)), 0, oneTrack(1, 1, 0, 0))
	expectPin(t, tunes(rings(1000, 0, 999)), 1000, oneTrack(1000, 1, 1000, 999))
	for many := 1; many <= 8; many++ {
		for _, rest := range numbers(0, 3, 10) {
			expectPinError(t, slices.Repeat(tunes(tune(10)), many), rest, api.ErrFull)
		}
	}
}

func TestPinAgainstFewest(t *testing.T) {
	x := seeded(13)
	for range 500 {
		l := randomTunes(x, 4)
		rest := x.IntN(1 + x.IntN(l[0].Steps+1))
		want := pinnedOf(l, rest)
		switch {
		case len(want.Hammers) == 0:
			expectPinError(t, l, rest, api.ErrFull)
		default:
			expectPin(t, l, rest, want)
		}
	}
}

func TestPinManyHammers(t *testing.T) {
	// Five bells with eight blows each: with the greatest rest, 40 hammers.
	forty := fullTune(100, 40)
	expectPin(t, tunes(forty), 100, pinnedOf(tunes(forty), 100))
	one := rings(100, 15, 50)
	expectPinError(t, tunes(tune(100, append(slices.Clone(forty.Blows), one.Blows...)...)), 100, api.ErrFull)
	expectPinError(t, tunes(forty, one), 100, api.ErrFull)
	expectPinError(t, tunes(one, forty), 100, api.ErrFull)
	expectPinError(t, tunes(fullTune(100, 60)), 100, api.ErrFull)
	// With less rest there are fewer.
	expectPin(t, tunes(forty, one), 1, pinnedOf(tunes(forty, one), 1))
	// What each tune needs is not added up: the one that needs most for a bell decides.
	expectPin(t, slices.Repeat(tunes(forty), 8), 100, pinnedOf(slices.Repeat(tunes(forty), 8), 100))
	first, second := fullTune(100, 24), fullTune(100, 40)
	second.Blows = second.Blows[24:]
	expectPin(t, tunes(first, second), 100, pinnedOf(tunes(first, second), 100))
	second.Blows = append(second.Blows, blow(0, 5))
	expectPinError(t, tunes(first, second), 100, api.ErrFull)
}

func TestPinManyPins(t *testing.T) {
	fifty := slices.Repeat(tunes(fullTune(100, 50)), 8)
	c := pinnedOf(fifty, 0)
	if len(c.Pins) != 400 || len(c.Hammers) != 7 {
		t.Fatalf("%d pins, %d hammers", len(c.Pins), len(c.Hammers))
	}
	expectPin(t, fifty, 0, c)
	for _, more := range numbers(51, 60) {
		for n := range 8 {
			l := slices.Clone(fifty)
			l[n] = fullTune(100, more)
			expectPinError(t, l, 0, api.ErrFull)
			l[(n+1)%8] = fullTune(100, 100-more)
			expectPin(t, l, 0, pinnedOf(l, 0))
		}
	}
	expectPinError(t, slices.Repeat(tunes(fullTune(100, 60)), 8), 0, api.ErrFull)
	seven := slices.Repeat(tunes(fullTune(100, 57)), 7)
	expectPin(t, seven, 2, pinnedOf(seven, 2))
}

func TestErrorsOfPin(t *testing.T) {
	good := rings(10, 5, 0, 2, 4, 6, 8)
	for _, rest := range append(wild(), 0, 3, 10, 11) {
		expectPinError(t, nil, rest, api.ErrNone)
		expectPinError(t, slices.Repeat(tunes(good), 9), rest, api.ErrLong)
		expectPinError(t, make([]api.ChimeTune, 9), rest, api.ErrLong)
		expectPinError(t, make([]api.ChimeTune, 1000), rest, api.ErrLong)
	}
	for _, u := range badTunes() {
		for _, rest := range numbers(-1, 0, 3, 10, 11) {
			expectPinError(t, tunes(u), rest, api.ErrArg)
			expectPinError(t, tunes(u, rings(9, 0, 0)), rest, api.ErrArg)
		}
		for _, rest := range numbers(0, 3, 10) {
			expectPinError(t, tunes(good, u), rest, api.ErrArg)
			expectPinError(t, tunes(good, good, u, rings(9, 0, 0)), rest, api.ErrArg)
			expectPinError(t, append(slices.Repeat(tunes(tune(10)), 7), u), rest, api.ErrArg)
		}
	}
	for _, rest := range append(wild(), 11, 1000, 1001) {
		expectPinError(t, tunes(good), rest, api.ErrRange)
		expectPinError(t, tunes(tune(10)), rest, api.ErrRange)
	}
}

// Tune by tune: the first one with an error decides, and of its errors the one named first.
func TestErrorsOfPinTuneByTune(t *testing.T) {
	good, wrong := rings(10, 5, 0, 2, 4, 6, 8), tune(10, blow(0, 16))
	shorter, longer := rings(9, 5, 0), rings(11, 5, 0)
	for _, x := range []struct {
		l    []api.ChimeTune
		rest int
		e    api.Errno
	}{
		{tunes(good, shorter), 3, api.ErrForm}, {tunes(good, longer), 3, api.ErrForm}, {tunes(good, good, good, tune(9)), 0, api.ErrForm}, {tunes(tune(10), tune(9)), 0, api.ErrForm},
		{tunes(good, shorter), 9, api.ErrForm}, {tunes(good, shorter), 10, api.ErrRange}, {tunes(good, longer), 10, api.ErrForm}, {tunes(good, longer), 11, api.ErrRange}, {tunes(shorter, good), 10, api.ErrRange},
		{tunes(good, wrong), 11, api.ErrRange}, {tunes(wrong, good), 11, api.ErrArg}, {tunes(good, wrong), -1, api.ErrRange},
		{tunes(good, shorter, wrong), 3, api.ErrForm}, {tunes(good, wrong, shorter), 3, api.ErrArg}, {tunes(good, shorter, wrong), 10, api.ErrRange}, {tunes(good, tune(9, blow(9, 0))), 10, api.ErrArg},
		// They come before what does not fit on a barrel.
		{tunes(fullTune(100, 60), rings(99, 0, 0)), 100, api.ErrRange}, {tunes(fullTune(100, 60), rings(101, 0, 0)), 100, api.ErrForm}, {tunes(fullTune(100, 60), wrong), 100, api.ErrArg}, {tunes(fullTune(100, 60), tune(100, blow(100, 0))), 100, api.ErrArg},
		{tunes(tune(10), wrong), 0, api.ErrArg}, {append(slices.Repeat(tunes(fullTune(100, 60)), 7), shorter), 0, api.ErrForm},
	} {
		expectPinError(t, x.l, x.rest, x.e)
	}
}

// P6.13

func TestPinned(t *testing.T) {
	x := seeded(14)
	lists := [][]api.ChimeTune{tunes(fullTune(100, 40)), slices.Repeat(tunes(fullTune(100, 50)), 8)}
	for range 300 {
		lists = append(lists, randomTunes(x, 8))
	}
	for _, l := range lists {
		rest := x.IntN(1 + min(20, l[0].Steps))
		c, e := chime.Pin(l, rest)
		if e == api.ErrFull {
			continue
		}
		expectCheck(t, c, api.OK)
		expectClash(t, c)
		for n, u := range l {
			want := slices.Clone(u.Blows)
			slices.SortFunc(want, compareBlows)
			expectPlays(t, c, runOf{n, 0, 0}, want...)
		}
	}
}
