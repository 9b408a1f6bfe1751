package ising

import (
	"slices"

	"demon/api"
	"demon/whole"
)

const (
	mostCount = 1 << 20
	mostPart  = 1000 // of a fraction's numbers
)

// Mean number of unlike bonds.
func Mean(counts []int, x api.Frac) (api.Frac, error) {
	if err := meanError(counts, x); err != nil {
		return api.Frac{}, err
	}
	var num, den whole.Nat
	for k, n := range counts {
		// Both sums are taken times one power of x's Den, so that they are whole.
		weight := whole.NatOf(uint64(n)).TimesPower(uint64(x.Num), k).TimesPower(uint64(x.Den), len(counts)-1-k)
		num = num.Plus(weight.Times(uint64(k)))
		den = den.Plus(weight)
	}
	return whole.Told(num, den)
}

func meanError(counts []int, x api.Frac) error {
	switch {
	case len(counts) > api.MaxEdges+1:
		return api.ErrBound
	case len(counts) == 0 || slices.ContainsFunc(counts, isNoCount) || isNoPart(x.Num) || isNoPart(x.Den):
		return api.ErrShape
	case slices.Max(counts) == 0:
		return api.ErrNone
	}
	return nil
}

func isNoCount(n int) bool { return n < 0 || n > mostCount }

func isNoPart(n int) bool { return n < 1 || n > mostPart }
