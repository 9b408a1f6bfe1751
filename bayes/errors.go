package bayes

import (
	"demon/api"
	"demon/dist"
	"demon/whole"
)

// Bounds of a test.
const (
	mostRow     = 6 // outcomes by which p is told from q
	mostWeights = 4 // weights of each
)

// Errors of the best test.
func Errors(p, q []int, n int) (api.Frac, error) {
	if err := dist.ValidPair(p, q); err != nil {
		return api.Frac{}, err
	}
	if n < 0 || n > mostRow || len(p) > mostWeights {
		return api.Frac{}, api.ErrBound
	}
	// Both chances of a row stand over one number, so that the lesser one is seen from what is above it.
	one := whole.NatOf(1)
	allP, allQ := one.TimesPower(uint64(whole.Total(p)), n), one.TimesPower(uint64(whole.Total(q)), n)
	sum := whole.NatOf(0)
	var rows func(left int, byP, byQ whole.Nat)
	rows = func(left int, byP, byQ whole.Nat) {
		if left == 0 {
			sum = sum.Plus(lesser(byP, byQ))
			return
		}
		for k := range p {
			rows(left-1, byP.Times(uint64(p[k])), byQ.Times(uint64(q[k])))
		}
	}
	rows(n, allQ, allP)
	return whole.Told(sum, allP.By(allQ))
}

func lesser(a, b whole.Nat) whole.Nat {
	if a.Cmp(b) < 0 {
		return a
	}
	return b
}
