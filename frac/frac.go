// Package frac makes and tests the fractions that the layers use.
package frac

import "turndown/api"

// New returns num / den, reduced, for den of at least 1.
func New(num, den int) api.Frac {
	divisor := commonDivisor(num, den)
	return api.Frac{Num: num / divisor, Den: den / divisor}
}

// IsValid reports whether f is a reduced fraction with a denominator of at
// least 1.
func IsValid(f api.Frac) bool {
	return f.Den >= 1 && commonDivisor(f.Num, f.Den) == 1
}

// CommonMultiple returns the least one of two numbers of at least 1, whose
// product must be an int.
func CommonMultiple(a, b int) int {
	return a / commonDivisor(a, b) * b
}

// commonDivisor returns the greatest one, for den of at least 1. The first
// step takes a remainder of num, and never its absolute value, which the
// least int does not have.
func commonDivisor(num, den int) int {
	divisor, rest := den, num%den
	for rest != 0 {
		divisor, rest = rest, divisor%rest
	}
	return max(divisor, -divisor)
}
