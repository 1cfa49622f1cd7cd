package dial_test

import (
	"slices"
	"testing"

	"turret/api"
	"turret/dial"
)

func expectSlack(t *testing.T, want int, l ...api.DialLink) {
	t.Helper()
	if n, e := dial.Slack(linked(l...)); n != want || e != api.OK {
		t.Errorf("Slack of %v = %d, %v; want %d", l, n, e, want)
	}
}

// P4.2

func TestSlack(t *testing.T) {
	expectSlack(t, 18, link(5, 1, 1))
	expectSlack(t, 21, link(5, 1, 1), link(7, 12, 1))
	expectSlack(t, 0)
	expectSlack(t, 0, link(0, 1, 200))
	expectSlack(t, 72, link(20, 1, 1))
	// A shaft that turns more slowly has more slack, and one that turns faster less.
	expectSlack(t, 36, link(5, 1, 2))
	expectSlack(t, 9, link(5, 2, 1))
	expectSlack(t, 27, link(5, 2, 3))
	expectSlack(t, 3600, link(1000, 1, 1))
	expectSlack(t, 3600, link(5, 1, 200))
	expectSlack(t, 3600, link(250, 1, 1), link(250, 1, 1), link(250, 1, 1), link(250, 1, 1))
}

// The fractions of all links are added, and then rounded up.
func TestSlackIsRoundedUpOnce(t *testing.T) {
	expectSlack(t, 1, link(1, 200, 1))
	expectSlack(t, 1, link(1, 200, 1), link(1, 200, 1), link(1, 199, 1), link(1, 197, 1))
	expectSlack(t, 4, link(1, 1, 1))
	expectSlack(t, 8, link(1, 1, 1), link(1, 1, 1))
	expectSlack(t, 15, link(1, 1, 1), link(1, 1, 1), link(1, 1, 1), link(1, 1, 1))
	// Three thirds, and six sevenths and a seventh, are just one second.
	expectSlack(t, 1, link(5, 54, 1), link(5, 54, 1), link(5, 54, 1))
	expectSlack(t, 1, link(5, 21, 1), link(5, 126, 1))
	expectSlack(t, 2, link(5, 21, 1), link(5, 126, 1), link(1, 200, 1))
	expectSlack(t, 3600, link(1000, 3, 1), link(1000, 3, 1), link(1000, 3, 1))
	expectSlack(t, 3600, link(1000, 7, 1), link(1000, 7, 2), link(1000, 7, 4))
	expectSlack(t, 3600, link(999, 1, 1), link(199, 200, 1))
	expectSlack(t, 3600, link(1000, 200, 199), link(1000, 200, 1))
	// Without a common divisor of any two.
	expectSlack(t, 74, link(1000, 191, 1), link(1000, 193, 1), link(1000, 197, 1), link(1000, 199, 1))
}

func TestSlackOfValidFaces(t *testing.T) {
	for _, f := range goodFaces() {
		expectSlack(t, slackOf(f), f.Links...)
		if n, e := dial.Slack(f); n != slackOf(f) || e != api.OK {
			t.Errorf("Slack(%v) = %d, %v", f, n, e)
		}
	}
}

func TestSlackOfRandomLinks(t *testing.T) {
	r := seeded(1)
	for range 20000 {
		var l []api.DialLink
		for range 1 + r.IntN(4) {
			l = append(l, link(r.IntN(1001), 1+r.IntN(200), 1+r.IntN(30)))
		}
		switch want := slackOf(linked(l...)); {
		case want <= 3600:
			expectSlack(t, want, l...)
		default:
			if n, e := dial.Slack(linked(l...)); n != 0 || e != api.ErrArg {
				t.Errorf("Slack of %v = %d, %v; it is %d", l, n, e, want)
			}
		}
	}
}

func TestSlackOfInvalidFaces(t *testing.T) {
	for _, f := range badFaces() {
		if n, e := dial.Slack(f); n != 0 || e != api.ErrArg {
			t.Errorf("Slack(%v) = %d, %v", f, n, e)
		}
	}
}

// R4

func TestSlackChangesNothing(t *testing.T) {
	f := linked(link(5, 1, 1), link(7, 12, 1))
	before := slices.Clone(f.Links)
	dial.Slack(f)
	if !slices.Equal(f.Links, before) {
		t.Errorf("Slack changed %v to %v", before, f.Links)
	}
}
