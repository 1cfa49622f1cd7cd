package wire

import (
	"slices"

	"turret/api"
)

// within reports whether all numbers are from low to high.
func within(low, high int, numbers ...int) bool {
	outside := func(n int) bool { return n < low || n > high }
	return !slices.ContainsFunc(numbers, outside)
}

// validSpan reports whether a span is valid from -most to most.
func validSpan(s api.Span, most int) bool {
	return s.Low <= s.High && within(-most, most, s.Low, s.High)
}

// modulo returns a modulo n, which is above 0.
func modulo(a, n int) int { return (a%n + n) % n }

// down returns a / n, rounded down; n is above 0.
func down(a, n int) int { return (a - modulo(a, n)) / n }

// up returns a / n, rounded up; n is above 0.
func up(a, n int) int { return -down(-a, n) }

// beyond returns by how much a span has to be wider to both sides to have a number.
func beyond(s api.Span, n int) int { return max(0, s.Low-n, n-s.High) }
