package dial

import (
	"cmp"
	"slices"

	"turret/api"
)

// modulo returns a modulo n, which is above 0.
func modulo(a, n int) int { return (a%n + n) % n }

// turned returns what a dial shows while its hand is somewhere in a span, which is shorter than half a day.
func turned(hand api.Span) []api.Span {
	low := modulo(hand.Low, api.HalfDay)
	high := low + hand.High - hand.Low
	if high < api.HalfDay {
		return []api.Span{{Low: low, High: high}}
	}
	return []api.Span{{High: high - api.HalfDay}, {Low: low, High: api.HalfDay - 1}}
}

// joined returns spans in ascending order, and those as one between which nothing is missing.
func joined(l []api.Span) []api.Span {
	ascending := func(a, b api.Span) int { return cmp.Compare(a.Low, b.Low) }
	var list []api.Span
	for _, s := range slices.SortedFunc(slices.Values(l), ascending) {
		last := len(list) - 1
		if last >= 0 && s.Low <= list[last].High+1 {
			list[last].High = max(list[last].High, s.High)
		} else {
			list = append(list, s)
		}
	}
	return list
}
