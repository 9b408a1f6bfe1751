package heat

import (
	"demon/api"
	"demon/whole"
)

// Mean of the gain. Paths that have come to one state go on alike, so they are carried on together.
func Mean(p Process) (api.Frac, error) {
	if err := Valid(p); err != nil {
		return api.Frac{}, err
	}
	now := startOf(p.Weights[0])
	for t := range len(p.Steps) {
		now = now.gain(p.Weights[t], p.Weights[t+1]).step(p.Steps[t])
	}
	sum := whole.NatOf(0)
	for _, n := range now.parts {
		sum = sum.Plus(n)
	}
	return whole.Told(sum, now.den)
}

// carried is, of each state, the sum of chance times gain over all paths that have come to it: all over one denominator, which may be long.
type carried struct {
	parts []whole.Nat
	den   whole.Nat
}

func startOf(w []int) carried {
	c := carried{make([]whole.Nat, len(w)), whole.NatOf(uint64(whole.Total(w)))}
	for i, n := range w {
		c.parts[i] = whole.NatOf(uint64(n))
	}
	return c
}

// gain as the weights change.
func (c carried) gain(old, next []int) carried {
	out := c.over(old)
	for i, n := range next {
		out.parts[i] = out.parts[i].Times(uint64(n))
	}
	return out
}

// step by the rows of a chain.
func (c carried) step(rows [][]int) carried {
	sums := make([]int, len(rows))
	for i, row := range rows {
		sums[i] = whole.Total(row)
	}
	from := c.over(sums)
	to := carried{make([]whole.Nat, len(rows)), from.den}
	for i := range len(rows) {
		for k := range len(rows) {
			to.parts[k] = to.parts[k].Plus(from.parts[i].Times(uint64(rows[i][k])))
		}
	}
	return to
}

// over is each part over a number of its own. So that one denominator is left, each is taken times the numbers of all others.
func (c carried) over(numbers []int) carried {
	out := carried{make([]whole.Nat, len(numbers)), c.den}
	for i := range len(numbers) {
		out.den = out.den.Times(uint64(numbers[i]))
		out.parts[i] = c.parts[i]
		for other := range len(numbers) {
			if other != i {
				out.parts[i] = out.parts[i].Times(uint64(numbers[other]))
			}
		}
	}
	return out
}
