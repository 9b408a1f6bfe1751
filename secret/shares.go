package secret

import (
	"slices"

	"demon/api"
	"demon/whole"
)

const (
	mostShares = 24 // that are made at once
	mostCoefs  = 12 // of a polynomial; and places at which one is known
)

// Share a secret.
func Share(p int, coefs []int, n int) ([]int, error) {
	if !isModulus(p) {
		return nil, api.ErrKind
	}
	if n < 1 || n > min(p-1, mostShares) || len(coefs) < 1 || len(coefs) > mostCoefs {
		return nil, api.ErrBound
	}
	if !allFrom(0, p-1, coefs) {
		return nil, api.ErrShape
	}
	out := make([]int, n)
	for i := range out {
		out[i] = valueAt(p, coefs, i+1)
	}
	return out, nil
}

// isModulus tells whether there is a field of p elements, and p is small enough. (The bound is asked first: of great numbers it is slow to say whether they are primes.)
func isModulus(p int) bool { return p <= api.MaxModulus && whole.Prime(p) }

// allFrom low to high?
func allFrom(low, high int, l []int) bool {
	for _, n := range l {
		if n < low || n > high {
			return false
		}
	}
	return true
}

// valueAt a place of the polynomial: from its highest power down, as so no power is ever made (Horner).
func valueAt(p int, coefs []int, place int) int {
	value := 0
	for _, coef := range slices.Backward(coefs) {
		value = (value*place + coef) % p
	}
	return value
}

// Join shares.
func Join(p int, at []int, values []int) (int, error) {
	if !isModulus(p) {
		return 0, api.ErrKind
	}
	if len(at) < 1 || len(at) > mostCoefs {
		return 0, api.ErrBound
	}
	if len(values) != len(at) || !allFrom(1, p-1, at) || !allFrom(0, p-1, values) || hasTwice(at) {
		return 0, api.ErrShape
	}
	sum := 0
	for i, value := range values {
		sum += value * partAtZero(p, at, i)
	}
	return sum % p, nil
}

func hasTwice(l []int) bool {
	for i, n := range l {
		if slices.Contains(l[:i], n) {
			return true
		}
	}
	return false
}

// partAtZero is the value at 0 of the polynomial that is 1 at the i-th place and 0 at all others (Lagrange).
func partAtZero(p int, at []int, i int) int {
	up, down := 1, 1
	for k, place := range at {
		if k != i {
			up = up * place % p
			down = down * (place - at[i] + p) % p
		}
	}
	return up * inverse(p, down) % p
}

// inverse of a number that p does not divide: its power to p - 2, as that to p - 1 is 1 (Fermat).
func inverse(p, n int) int {
	out := 1
	for range p - 2 {
		out = out * n % p
	}
	return out
}
