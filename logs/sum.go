package logs

import (
	"maps"
	"slices"

	"demon/api"
	"demon/whole"
)

// sum of logarithms while it is made: coefficients by primes, over one denominator.
type sum struct {
	den   int
	coefs map[int]int
}

func newSum(den int) sum { return sum{den: den, coefs: map[int]int{}} }

func (s sum) putTerms(l []api.Term, times int) {
	for _, t := range l {
		s.coefs[t.Prime] += t.Coef * times
	}
}

// putFactors puts the logarithm of n, a number from 1 on, so many times.
func (s sum) putFactors(n, times int) {
	for d := 2; d <= n/d; d++ {
		for n%d == 0 {
			s.coefs[d] += times
			n /= d
		}
	}
	if n > 1 {
		s.coefs[n] += times
	}
}

// told is the sum in form; ErrBound: it has none.
func (s sum) told() (api.Log, error) {
	primes := slices.Sorted(maps.Keys(s.coefs))
	common := s.den
	for _, p := range primes {
		common = whole.GCD(common, s.coefs[p])
	}
	out := api.Log{Den: s.den / common}
	if out.Den > api.MaxDen {
		return api.Log{}, api.ErrBound
	}
	for _, p := range primes {
		coef := s.coefs[p] / common
		if whole.Size(coef) > api.MaxCoef {
			return api.Log{}, api.ErrBound
		}
		if coef != 0 {
			out.L = append(out.L, api.Term{Prime: p, Coef: coef})
		}
	}
	return out, nil
}
