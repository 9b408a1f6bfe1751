package chain

import (
	"demon/api"
	"demon/dist"
	"demon/whole"
)

// After so many steps.
func After(c [][]int, w []int, steps int) ([]api.Frac, error) {
	if err := Valid(c); err != nil {
		return nil, err
	}
	if err := dist.Valid(w); err != nil {
		return nil, err
	}
	if len(w) != len(c) {
		return nil, api.ErrShape
	}
	if steps < 0 || steps > api.MaxSteps {
		return nil, api.ErrBound
	}
	rows, sum := alike(c)
	now, all := nats(w), whole.NatOf(uint64(whole.Total(w)))
	for range steps {
		now, all = step(rows, now), all.By(sum)
	}
	return whole.ToldAll(now, all)
}

// alike is the chain with all its rows made to have one sum, and this sum: so chances stay over one denominator.
func alike(c [][]int) ([][]whole.Nat, whole.Nat) {
	rows, sum := make([][]whole.Nat, len(c)), whole.NatOf(1)
	for i := range len(c) {
		rows[i] = nats(c[i])
	}
	for i := range len(c) {
		own := uint64(whole.Total(c[i]))
		for other := range len(c) {
			if other != i {
				scale(rows[other], own)
			}
		}
		sum = sum.Times(own)
	}
	return rows, sum
}

func scale(l []whole.Nat, by uint64) {
	for i, n := range l {
		l[i] = n.Times(by)
	}
}

func step(rows [][]whole.Nat, now []whole.Nat) []whole.Nat {
	next := make([]whole.Nat, len(now))
	for i := range len(now) {
		for k := range len(now) {
			next[k] = next[k].Plus(now[i].By(rows[i][k]))
		}
	}
	return next
}

func nats(l []int) []whole.Nat {
	out := make([]whole.Nat, len(l))
	for i, n := range l {
		out[i] = whole.NatOf(uint64(n))
	}
	return out
}
