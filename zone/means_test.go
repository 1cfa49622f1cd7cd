package zone_test

import (
	"slices"
	"testing"

	"turret/api"
	"turret/zone"
)

// P10.3

func TestMeansOfExamples(t *testing.T) {
	expectMeans(t, railway(), 594, span(35940, 35999))
	expectMeans(t, railway(), 100, span(6300, 6359))
	for minute := 595; minute <= 599; minute++ {
		expectMeansError(t, railway(), minute, api.ErrNone)
	}
	expectMeans(t, railway(), 600, span(36000, 36059))
	expectMeans(t, back(), 597, span(35820, 35879), span(36120, 36179))
}

// Minutes that have begun before 0, or end after MaxTime, come in part.
func TestMeansAtTheEnds(t *testing.T) {
	expectMeans(t, office(), 0, span(0, 59))
	expectMeansError(t, office(), -1, api.ErrNone)
	expectMeans(t, town(-300), -5, span(0, 59))
	expectMeansError(t, town(-300), -6, api.ErrNone)
	expectMeans(t, town(-1), -1, single(0))
	expectMeans(t, town(-1), 0, span(1, 60))
	expectMeans(t, town(59), 0, single(0))
	expectMeans(t, town(59), 1, span(1, 60))
	expectMeans(t, town(-43200), -720, span(0, 59))
	expectMeansError(t, town(-43200), -721, api.ErrNone)
	expectMeansError(t, town(43200), 719, api.ErrNone)
	expectMeans(t, town(43200), 720, span(0, 59))

	last := api.MaxTime / 60
	expectMeans(t, office(), last, single(api.MaxTime))
	expectMeans(t, office(), last-1, span(api.MaxTime-60, api.MaxTime-1))
	expectMeansError(t, office(), last+1, api.ErrNone)
	expectMeans(t, town(43200), last+720, single(api.MaxTime))
	expectMeansError(t, town(43200), last+721, api.ErrNone)
	expectMeans(t, town(-43200), last-720, single(api.MaxTime))
	expectMeansError(t, town(-43200), last-719, api.ErrNone)
	expectMeans(t, town(59), last, span(api.MaxTime-59, api.MaxTime))
	expectMeans(t, town(-1), last-1, span(api.MaxTime-59, api.MaxTime))
	expectMeansError(t, town(-1), last, api.ErrNone)
	expectMeans(t, town(60, change(api.MaxTime, 0)), last, span(api.MaxTime-60, api.MaxTime))
	expectMeans(t, town(120, change(api.MaxTime, 0)), last, span(api.MaxTime-120, api.MaxTime-61), single(api.MaxTime))
}

// Put back by a minute at its beginning, and within it; put forward within it.
func TestMeansInPart(t *testing.T) {
	minute := town(0, change(600, -60))
	expectMeans(t, minute, 9, span(540, 659))
	within := town(0, change(610, -60))
	expectMeans(t, within, 9, span(540, 599), span(610, 659))
	expectMeans(t, within, 10, span(600, 609), span(660, 719))
	forward := town(0, change(610, 60))
	expectMeans(t, forward, 10, span(600, 609))
	expectMeans(t, forward, 11, span(610, 659))
	expectMeans(t, forward, 12, span(660, 719))
	seconds := town(0, change(610, -10))
	expectMeans(t, seconds, 10, span(600, 669))
	expectMeans(t, seconds, 9, span(540, 599))
	expectMeans(t, town(0, change(610, -11)), 9, span(540, 599), single(610))
	expectMeans(t, town(0, change(610, -11)), 10, span(600, 609), span(611, 670))
	expectMeans(t, town(0, change(610, 10)), 10, span(600, 649))
	expectMeans(t, town(0, change(610, 49)), 10, span(600, 610))
	expectMeans(t, town(0, change(610, 50)), 10, span(600, 609))
}

func TestMeansThreeTimes(t *testing.T) {
	z := town(0, change(600, -120), change(720, -240))
	expectMeans(t, z, 8, span(480, 539), span(600, 659), span(720, 779))
	expectMeans(t, z, 9, span(540, 599), span(660, 719), span(780, 839))
	expectMeans(t, z, 10, span(840, 899))
}

// Changes that lie less than a minute apart: what is put back is put forward again in the same minute.
func TestMeansOfCloseChanges(t *testing.T) {
	z := town(0, change(610, -10), change(630, 0))
	expectMeans(t, z, 10, span(600, 659))
	expectMeans(t, z, 9, span(540, 599))
	far := town(0, change(610, -3000), change(612, 3000), change(615, 0))
	expectMeans(t, far, 10, span(600, 609), span(615, 659))
	expectMeans(t, far, -40, span(610, 611))
	expectMeans(t, far, 60, span(612, 614), span(3600, 3659))
	every := town(0, change(100, 60), change(101, 120), change(102, 180), change(103, 0))
	expectMeans(t, every, 1, span(60, 99), span(103, 119))
	expectMeans(t, every, 2, single(100), span(120, 179))
	expectMeans(t, every, 3, single(101), span(180, 239))
	expectMeans(t, every, 4, single(102), span(240, 299))
}

// A change to the offset that counts already changes nothing.
func TestMeansOfTheSameOffset(t *testing.T) {
	z := town(5, change(100, 5), change(101, 5), change(170, 5), change(2000, 5))
	for minute := -1; minute < 50; minute++ {
		want, _ := zone.Means(town(5), minute)
		if got, _ := zone.Means(z, minute); !slices.Equal(got, want) {
			t.Errorf("Means(%v, %d) = %v; want %v", z, minute, got, want)
		}
	}
}

func TestMeansOfTowns(t *testing.T) {
	x := seeded(2)
	kinds := map[int]int{}
	for i := range 400 {
		start := []int{0, api.MaxTime - 1000}[i%2]
		z := randomTown(x, 12, start+1, start+1000, 400)
		for minute := (start - 500) / 60; minute <= (start+1500)/60; minute++ {
			want := comes(z, minute)
			kinds[len(want)]++
			if len(want) == 0 {
				expectMeansError(t, z, minute, api.ErrNone)
				continue
			}
			expectMeans(t, z, minute, want...)
		}
	}
	for n := range 4 {
		if kinds[n] < 100 {
			t.Errorf("only %d minutes come in %d spans", kinds[n], n)
		}
	}
}

func TestErrorsOfMeans(t *testing.T) {
	for _, z := range goodTowns() {
		for _, minute := range append(wild(), -722, api.MaxTime/60+722) {
			expectMeansError(t, z, minute, api.ErrNone)
		}
	}
}
