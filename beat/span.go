package beat

import (
	"slices"

	"turret/api"
)

// span is a span with its arithmetic: the ends of a result are the least and the greatest integer that one of each span can give.
type span struct{ api.Span }

// around returns the smallest span that holds some integers, of which there is at least one.
func around(n ...int) span {
	return span{api.Span{Low: slices.Min(n), High: slices.Max(n)}}
}

func (s span) plus(o span) span { return around(s.Low+o.Low, s.High+o.High) }

func (s span) minus(o span) span { return around(s.Low-o.High, s.High-o.Low) }

func (s span) times(o span) span {
	return around(s.Low*o.Low, s.Low*o.High, s.High*o.Low, s.High*o.High)
}

func (s span) scaled(n int) span { return around(s.Low*n, s.High*n) }

// over returns the span divided by a number above 0, with its ends rounded outwards.
func (s span) over(n int) api.Span {
	return api.Span{Low: floor(s.Low, n), High: -floor(-s.High, n)}
}

// floor returns a divided by a number above 0, rounded down.
func floor(a, n int) int {
	quotient := a / n
	if a%n < 0 {
		quotient--
	}
	return quotient
}

// lowest returns a ratio in lowest terms; den is above 0.
func lowest(num, den int) api.Ratio {
	a, b := den, max(num, -num)
	for b != 0 {
		a, b = b, a%b
	}
	return api.Ratio{Num: num / a, Den: den / a}
}
