package walks

import (
	"demon/api"
	"demon/fold"
	"demon/whole"
)

// Voltages of vertices.
func Voltages(g Net, from, to int) ([]api.Frac, error) {
	if err := pairError(g, from, to); err != nil {
		return nil, err
	}
	return whole.ToldAll(voltages(g, from, to))
}

// voltages over one number, which may be long: at each vertex how likely a walk from there comes to `from` ahead of `to`, as a step to each neighbour is as likely as its conductance says.
func voltages(g Net, from, to int) ([]whole.Nat, whole.Nat) {
	vertices := []int{to, from}
	for v := range g.N {
		if v != from && v != to {
			vertices = append(vertices, v)
		}
	}
	return fold.Of(weights(g), vertices).Ahead()
}

// Resistance between two.
func Resistance(g Net, from, to int) (api.Frac, error) {
	if err := pairError(g, from, to); err != nil {
		return api.Frac{}, err
	}
	return whole.Told(resistance(g, from, to))
}

// resistance as a fraction, whose numbers may be long.
func resistance(g Net, from, to int) (num, den whole.Nat) {
	l, one := voltages(g, from, to)
	current := whole.NatOf(0)
	for k, c := range weights(g)[from] {
		current = current.Plus(one.Minus(l[k]).Times(uint64(c)))
	}
	return one, current
}

// Commute: there and back.
func Commute(g Net, a, b int) (api.Frac, error) {
	if err := pairError(g, a, b); err != nil {
		return api.Frac{}, err
	}
	if _, err := Chain(g); err != nil {
		return api.Frac{}, err
	}
	// Of all steps those from a have the share of a's weights in all weights (of each wire both ways); of these the share 1 over (a's weights times the resistance) leads to b ahead of a, once in each round.
	all := 0
	for _, w := range g.Wires {
		all += 2 * w.C
	}
	num, den := resistance(g, a, b)
	return whole.Told(num.Times(uint64(all)), den)
}
