// Package whole: whole numbers: small helpers of int, and numbers without a bound.
package whole

import "demon/api"

// Size of a number, without its sign.
func Size(n int) int {
	if n < 0 {
		return -n
	}
	return n
}

// Total of numbers.
func Total(l []int) int {
	sum := 0
	for _, n := range l {
		sum += n
	}
	return sum
}

// GCD is the greatest number that divides both (of 0 and 0: 0).
func GCD(a, b int) int {
	for b != 0 {
		a, b = b, a%b
	}
	return Size(a)
}

// Lowest is the fraction num over den in its lowest terms; den is above 0.
func Lowest(num, den int) api.Frac {
	common := GCD(num, den)
	return api.Frac{Num: num / common, Den: den / common}
}

// IsLowest tells whether a fraction is in its lowest terms, Den above 0, with no number above most in size. It is looked at from both sides, as the least number has no size.
func IsLowest(f api.Frac, most int) bool {
	return f.Den >= 1 && f.Den <= most && f.Num >= -most && f.Num <= most && GCD(f.Num, f.Den) == 1
}

// Floor is the greatest whole number that is at most a over b; b is above 0.
func Floor(a, b int) int {
	q := a / b
	if a%b < 0 {
		q--
	}
	return q
}

// Prime tells whether n is one.
func Prime(n int) bool {
	if n < 4 || n%2 == 0 {
		return n == 2 || n == 3
	}
	for d := 3; d <= n/d; d += 2 {
		if n%d == 0 {
			return false
		}
	}
	return true
}
