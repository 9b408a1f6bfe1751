// Package fold: chains of which states are taken out, one by one; so also networks, of which the weights are the same both ways.
package fold

import (
	"slices"

	"demon/whole"
)

// Chain of which states are taken out, from the last one down to the second: who would go by way of a state that is out goes straight to where one comes out of it, and takes as long. Each row and column stays as it was when its state was taken out. Nothing is ever taken away or divided, so whole numbers from 0 on will do.
type Chain struct {
	states  []int
	places  int // of what is told of each state: as many as states there were, also those left aside
	weights [][]whole.Nat
	times   []whole.Nat // of each state how long it takes to leave its row, times the row's sum
	out     []whole.Nat // of each state, when it was taken out, its weights to those before it
}

// Of the weights of some states that cannot be left; from each one the first can be come to.
func Of(c [][]int, states []int) Chain {
	f := Chain{slices.Clone(states), len(c), make([][]whole.Nat, len(states)), make([]whole.Nat, len(states)), make([]whole.Nat, len(states))}
	for i, from := range states {
		for _, k := range states {
			f.weights[i] = append(f.weights[i], whole.NatOf(uint64(c[from][k])))
		}
		f.times[i] = whole.NatOf(uint64(whole.Total(c[from])))
	}
	for s := len(states) - 1; s > 0; s-- {
		f.takeOut(s)
	}
	return f
}

// takeOut multiplies all rows that are left by one number, the weights that lead out of s: so they keep their proportions, each and among themselves.
func (f Chain) takeOut(s int) {
	out := whole.NatOf(0)
	for k := range s {
		out = out.Plus(f.weights[s][k])
	}
	for i := range s {
		to := f.weights[i][s]
		for k := range s {
			f.weights[i][k] = f.weights[i][k].By(out).Plus(to.By(f.weights[s][k]))
		}
		f.times[i] = f.times[i].By(out).Plus(to.By(f.times[s]))
	}
	f.out[s] = out
}

// Visits of all states, over their rows' sums, in proportion: as much comes to a state from those before it as goes out to them.
func (f Chain) Visits() []whole.Nat {
	now := []whole.Nat{whole.NatOf(1)}
	for s := 1; s < len(f.out); s++ {
		come := whole.NatOf(0)
		for i := range s {
			come = come.Plus(now[i].By(f.weights[i][s]))
			now[i] = now[i].By(f.out[s])
		}
		now = append(now, come)
	}
	return f.inPlace(now)
}

// Steps that it takes in the mean from each state to the first one, over one number.
func (f Chain) Steps() ([]whole.Nat, whole.Nat) {
	return f.goOn([]whole.Nat{whole.NatOf(0)}, f.times)
}

// Ahead tells of each state, over one number, how likely one comes from it to the second one ahead of the first.
func (f Chain) Ahead() ([]whole.Nat, whole.Nat) {
	return f.goOn([]whole.Nat{whole.NatOf(0), whole.NatOf(1)}, make([]whole.Nat, len(f.out)))
}

// goOn from what is told of the first states to all others, over one number: one leaves a state for those before it, and has what it gives (over its row's sum), and what they have.
func (f Chain) goOn(now, gives []whole.Nat) ([]whole.Nat, whole.Nat) {
	den := whole.NatOf(1)
	for s := len(now); s < len(f.out); s++ {
		sum := gives[s].By(den)
		for k := range s {
			sum = sum.Plus(now[k].By(f.weights[s][k]))
			now[k] = now[k].By(f.out[s])
		}
		now, den = append(now, sum), den.By(f.out[s])
	}
	return f.inPlace(now), den
}

// inPlace puts what was reckoned of each state at its number.
func (f Chain) inPlace(l []whole.Nat) []whole.Nat {
	out := make([]whole.Nat, f.places)
	for i, s := range f.states {
		out[s] = l[i]
	}
	return out
}

// Return to the first state: how many steps it takes in the mean, as a fraction. With all others taken out, the one row that is left leads from it straight back to it.
func (f Chain) Return() (num, den whole.Nat) { return f.times[0], f.weights[0][0] }

// Trees of a network: the sum, over all trees of all states, of the products of their weights, as a fraction. With a state taken out, the trees are its weights to those before it times the trees of these; but weights stand multiplied by those of all states that were taken out ahead.
func (f Chain) Trees() (num, den whole.Nat) {
	num, den = whole.NatOf(1), whole.NatOf(1)
	ahead := whole.NatOf(1)
	for s := len(f.out) - 1; s > 0; s-- {
		num, den, ahead = num.By(f.out[s]), den.By(ahead), ahead.By(f.out[s])
	}
	return num, den
}
