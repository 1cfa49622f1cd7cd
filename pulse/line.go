package pulse

import (
	"iter"
	"slices"

	"turret/api"
)

// sound is the kind of an impulse without a fault.
const sound api.PulseKind = 0

// moves are by how many minutes an impulse of each kind moves a dial.
var moves = [3]int{sound: 1, api.PulseLost: 0, api.PulseDouble: 2}

// right returns what a dial shows that is right at a minute.
func right(t int) int { return (t%api.PulseDial + api.PulseDial) % api.PulseDial }

// dial is what a dial shows, and, with PulseCount, by how many minutes it was moved since the last long impulse.
type dial struct{ shown, count int }

// line is a valid line that moves its dials.
type line struct{ api.PulseLine }

// newLine returns a line, or the errors of it, and of a dial that is followed from a minute on.
func newLine(l api.PulseLine, from, shown int) (line, api.Errno) {
	switch {
	case !validLine(l):
		return line{}, api.ErrArg
	case !within(0, api.MaxPulseTime, from):
		return line{}, api.ErrRange
	case !validShown(shown):
		return line{}, api.ErrArg
	}
	return line{l}, api.OK
}

// long reports whether the impulse of a minute is long.
func (l line) long(t int) bool { return l.Rule != api.PulsePlain && t%l.Every == 0 }

// start returns a dial that is followed from a minute on.
func (l line) start(shown, from int) dial {
	if l.Rule != api.PulseCount {
		return dial{shown: shown}
	}
	return dial{shown, from % l.Every}
}

// follow yields a dial after the impulse of each minute from one to another, with the minute.
func (l line) follow(shown, from int, faults []api.PulseFault, until int) iter.Seq2[int, dial] {
	kinds := map[int]api.PulseKind{}
	for _, f := range faults {
		kinds[f.At] = f.Kind
	}
	return func(yield func(int, dial) bool) {
		d := l.start(shown, from)
		for t := from; yield(t, d) && t < until; {
			t++
			d = l.impulse(d, t, kinds[t])
		}
	}
}

// impulse returns a dial after the impulse of a minute, which is of some kind.
func (l line) impulse(d dial, t int, kind api.PulseKind) dial {
	long := l.long(t)
	for range moves[kind] {
		if long || !l.waits(d) {
			d = l.moved(d)
		}
	}
	if long {
		return dial{shown: right(d.shown + l.correction(d))}
	}
	return d
}

// waits reports whether an impulse that is not long does not move a dial.
func (l line) waits(d dial) bool { return l.Rule == api.PulseWait && d.shown%l.Every == l.Every-1 }

// moved returns a dial that was moved by a minute.
func (l line) moved(d dial) dial {
	if l.Rule == api.PulseCount {
		d.count++
	}
	return dial{right(d.shown + 1), d.count}
}

// correction returns by how many minutes a dial goes on after the move of a long impulse; below 0, it goes back.
func (l line) correction(d dial) int {
	past := d.shown % l.Every
	switch l.Rule {
	case api.PulseZero:
		return l.reached(-past, l.Every-past)
	case api.PulseWait:
		return l.reached(l.Every - past)
	}
	return l.reached(l.Every - d.count)
}

// reached returns the first of some corrections that is within Reach, and 0 if none is.
func (l line) reached(corrections ...int) int {
	reached := func(n int) bool { return within(-l.Reach, l.Reach, n) }
	if i := slices.IndexFunc(corrections, reached); i >= 0 {
		return corrections[i]
	}
	return 0
}
