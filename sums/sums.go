// Package sums: sums of logarithms, while they are made.
package sums

import (
	"maps"
	"slices"

	"demon/api"
	"demon/whole"
)

// Sum of logarithms: coefficients by primes, over one denominator.
type Sum struct {
	den   int
	coefs map[int]int
}

// Over is the sum of nothing yet, over a denominator from 1 on.
func Over(den int) Sum { return Sum{den: den, coefs: map[int]int{}} }

// PutTerms puts each term, so many times.
func (s Sum) PutTerms(l []api.Term, times int) {
	for _, t := range l {
		s.coefs[t.Prime] += t.Coef * times
	}
}

// Put the logarithm of n, a number from 1 on, so many times. 0 times it is nothing, whatever n is: so a chance of 0 needs no care.
func (s Sum) Put(n, times int) {
	if times == 0 {
		return
	}
	for d := 2; d <= n/d; d++ {
		for n%d == 0 {
			s.coefs[d] += times
			n /= d
		}
	}
	if n > 1 {
		s.coefs[n] += times
	}
}

// Told is the sum in form; ErrBound: it has none.
func (s Sum) Told() (api.Log, error) {
	primes := slices.Sorted(maps.Keys(s.coefs))
	common := s.den
	for _, p := range primes {
		common = whole.GCD(common, s.coefs[p])
	}
	out := api.Log{Den: s.den / common}
	if out.Den > api.MaxDen {
		return api.Log{}, api.ErrBound
	}
	for _, p := range primes {
		coef := s.coefs[p] / common
		if whole.Size(coef) > api.MaxCoef {
			return api.Log{}, api.ErrBound
		}
		if coef != 0 {
			out.L = append(out.L, api.Term{Prime: p, Coef: coef})
		}
	}
	return out, nil
}
