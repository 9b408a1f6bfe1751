package types

import (
	"demon/api"
	"demon/dist"
	"demon/whole"
)

// Chance of a type.
func Chance(t []int, q []int) (api.Frac, error) {
	rows, err := Size(t)
	if err != nil {
		return api.Frac{}, err
	}
	if err := dist.Valid(q); err != nil {
		return api.Frac{}, err
	}
	if len(t) != len(q) {
		return api.Frac{}, api.ErrShape
	}
	all := whole.NatOf(1).TimesPower(uint64(whole.Total(q)), whole.Total(t))
	return whole.Told(powers(q, t).Times(uint64(rows)), all)
}

// Nearest type of a set.
func Nearest(n int, q []int, set [][]int) (int, error) {
	if n < 1 || n > api.MaxTypes || len(set) > mostOfSet {
		return 0, api.ErrBound
	}
	if err := dist.Valid(q); err != nil {
		return 0, err
	}
	for i, t := range set {
		if !isType(t, n, len(q)) {
			return 0, &api.Fault{At: i, Err: api.ErrShape}
		}
	}
	nearest, least := -1, endless()
	for i, t := range set {
		if a := between(t, q); a.below(least) {
			nearest, least = i, a
		}
	}
	return nearest, nil
}

// isType tells whether t is a type of n symbols out of k. Its sum is never made, as it might not fit: what is left of n is.
func isType(t []int, n, k int) bool {
	if len(t) != k {
		return false
	}
	left := n
	for _, x := range t {
		if x < 0 || x > left {
			return false
		}
		left -= x
	}
	return left == 0
}

// distance of a type of n symbols from weights: num over den is 2 to the power of n times the divergence, but for a factor that all types of n symbols share. So distances are compared without logarithms. den is 0 where a symbol is there that has no chance: that is above all others.
type distance struct{ num, den whole.Nat }

func between(t, q []int) distance { return distance{powers(t, t), powers(q, t)} }

func endless() distance { return distance{num: whole.NatOf(1)} }

func (a distance) below(b distance) bool { return a.num.By(b.den).Cmp(b.num.By(a.den)) < 0 }

// powers is the product of numbers, each to the power of the type's number (0 to the power of 0 is 1).
func powers(numbers, t []int) whole.Nat {
	out := whole.NatOf(1)
	for i, x := range numbers {
		out = out.TimesPower(uint64(x), t[i])
	}
	return out
}
