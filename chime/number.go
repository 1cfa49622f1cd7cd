package chime

// modulo returns the integer from 0 to n - 1 that differs from a by a multiple of n.
func modulo(a, n int) int {
	if a %= n; a < 0 {
		return a + n
	}
	return a
}

// apart returns how many steps two steps of a turn are apart.
func apart(a, b, steps int) int { return min(modulo(a-b, steps), modulo(b-a, steps)) }

// sum adds numbers.
func sum(numbers ...int) int {
	all := 0
	for _, n := range numbers {
		all += n
	}
	return all
}

// greatestDivisor returns the greatest integer that divides two numbers above 0.
func greatestDivisor(a, b int) int {
	for b > 0 {
		a, b = b, a%b
	}
	return a
}

// leastMultiple returns the least number above 0 that two numbers above 0 divide.
func leastMultiple(a, b int) int { return a / greatestDivisor(a, b) * b }
