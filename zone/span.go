package zone

import (
	"cmp"
	"slices"

	"turret/api"
)

// modulo returns the integer from 0 to n - 1 that differs from a by a multiple of n.
func modulo(a, n int) int { return (a%n + n) % n }

// quotient returns a divided by n, rounded down.
func quotient(a, n int) int { return (a - modulo(a, n)) / n }

// someOf returns spans, or an error if there are none.
func someOf(spans []api.Span) ([]api.Span, api.Errno) {
	if len(spans) == 0 {
		return nil, api.ErrNone
	}
	return spans, api.OK
}

// overlap returns what two spans have in common, and whether there is something.
func overlap(a, b api.Span) (both api.Span, some bool) {
	both = api.Span{Low: max(a.Low, b.Low), High: min(a.High, b.High)}
	return both, both.Low <= both.High
}

// joined returns the integers of spans in ascending order; spans that overlap or touch are one.
func joined(spans ...api.Span) []api.Span {
	slices.SortFunc(spans, func(a, b api.Span) int { return cmp.Compare(a.Low, b.Low) })
	var list []api.Span
	for _, s := range spans {
		if last := len(list) - 1; last >= 0 && s.Low <= list[last].High+1 {
			list[last].High = max(list[last].High, s.High)
			continue
		}
		list = append(list, s)
	}
	return list
}

// common returns the integers that two joined lists have in common; these are a joined list again.
func common(a, b []api.Span) []api.Span {
	var list []api.Span
	for _, x := range a {
		for _, y := range b {
			if both, some := overlap(x, y); some {
				list = append(list, both)
			}
		}
	}
	return list
}

// where returns the integers for which a condition holds that can change only at cuts, from the least cut to the one before the greatest.
func where(holds func(int) bool, cuts ...int) []api.Span {
	cuts = slices.Compact(slices.Sorted(slices.Values(cuts)))
	var list []api.Span
	for i, cut := range cuts[1:] {
		if holds(cuts[i]) {
			list = append(list, api.Span{Low: cuts[i], High: cut - 1})
		}
	}
	return joined(list...)
}
