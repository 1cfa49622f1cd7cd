package wire

import (
	"slices"

	"turret/api"
)

// inquiry is valid sources, notes of what they said, and the corrections that are asked about.
type inquiry struct {
	sources []kind
	notes   []api.WireNote
	near    api.Span
}

// newInquiry returns an inquiry, or the errors of notes.
func newInquiry(w []api.WireSource, l []api.WireNote, near api.Span) (inquiry, api.Errno) {
	sources, valid := kindsOf(w)
	switch {
	case !valid:
		return inquiry{}, api.ErrArg
	case len(l) > api.MaxWireNotes:
		return inquiry{}, api.ErrLong
	}
	q := inquiry{sources, l, near}
	for _, n := range l {
		if e := q.check(n); e != api.OK {
			return inquiry{}, e
		}
	}
	if !validSpan(near, api.MaxWireNear) {
		return inquiry{}, api.ErrRange
	}
	return q, api.OK
}

// check returns the error of a note.
func (q inquiry) check(n api.WireNote) api.Errno {
	switch {
	case !within(0, len(q.sources)-1, n.Source):
		return api.ErrNone
	case !within(0, api.MaxTime, n.Tick), !within(0, q.sources[n.Source].maxSaid(), n.Said):
		return api.ErrArg
	}
	return api.OK
}

// corrections yields all corrections in ascending order.
func (q inquiry) corrections(yield func(int) bool) {
	for correction := q.near.Low; correction <= q.near.High; correction++ {
		if !yield(correction) {
			return
		}
	}
}

// excess returns by how much the Error of its source has to be wider so that a note is right with a correction.
func (q inquiry) excess(n api.WireNote, correction int) int {
	t := n.Tick + correction
	if !within(0, api.MaxTime, t) {
		return never
	}
	return q.sources[n.Source].excess(t, n.Said)
}

// all returns the set of all sources.
func (q inquiry) all() set { return 1<<len(q.sources) - 1 }

// right returns the sources that are right with a correction.
func (q inquiry) right(correction int) set {
	right := q.all()
	for _, n := range q.notes {
		source := setOf(n.Source)
		if right.include(source) && q.excess(n, correction) > 0 {
			right &^= source
		}
	}
	return right
}

// allRight reports whether all sources are right with a correction.
func (q inquiry) allRight(correction int) bool { return q.right(correction) == q.all() }

// spans returns the corrections for which a condition holds.
func (q inquiry) spans(holds func(correction int) bool) []api.Span {
	var list []api.Span
	for c := range q.corrections {
		last := len(list) - 1
		switch {
		case !holds(c):
		case last >= 0 && list[last].High == c-1:
			list[last].High = c
		default:
			list = append(list, api.Span{Low: c, High: c})
		}
	}
	return list
}

// sets returns the sets of sources that are just those that are right with some correction.
func (q inquiry) sets() sets {
	found := sets{}
	for c := range q.corrections {
		found[q.right(c)] = true
	}
	return found
}

// wrong returns the smallest sets of sources without which all others are right with some correction, in order. They are what remains beside the greatest sets that occur.
func (q inquiry) wrong() [][]int {
	found := q.sets()
	most := found.most()
	var list [][]int
	for right := range found {
		if right.size() == most {
			list = append(list, (q.all() &^ right).list())
		}
	}
	slices.SortFunc(list, slices.Compare)
	return list
}

// stretch returns by how much the Error of a source has to be wider so that all notes are right with some correction.
func (q inquiry) stretch(source int) int {
	least := never
	for c := range q.corrections {
		least = min(least, q.stretchWith(source, c))
	}
	return least
}

// stretchWith returns by how much the Error of a source has to be wider so that all notes are right with a correction.
func (q inquiry) stretchWith(source, correction int) int {
	if right := q.right(correction) | setOf(source); right != q.all() {
		return never
	}
	most := 0
	for _, n := range q.notes {
		if n.Source == source {
			most = max(most, q.excess(n, correction))
		}
	}
	return most
}
